/-
  Package inode: a write is planned.
-/
import Derived.Test.YtebdgcoandfocaaGreatDoorQUd
import Derived.Test.YtebdgcoandfocaaGreatDoorQXp
import Derived.Test.YtebdgcoandfocaaGreatDoorQXe
import Derived.Test.YtebdgcoandfocaaGreatDoorKRg
import Derived.Test.YtebdgcoandfocaaGreatDoorKWchunk
import Derived.Test.YtebdgcoandfocaaGreatDoorKWmnt
import Derived.Laws.EntriesVeiled

/-
  Package inode: the hands of a write.
-/
namespace Go.Proofs.YtebdgcoandfocaaGreatDoor
open Go.RowKit Go.Maps Go.Sort Go.Shelf

section
variable {LP : Nat → World → Prop} {w0 ws : World} {wb c nb : Nat} {V : Nat → By} {U0 : Nat → Bool} {n at_ : Nat} {pb : Option Addr} {bl bc : Nat}

theorem kp_ct {tt : TypeId} (htt : okTT tt) {w w' : World} {mf : Bm.MS} (hm : Bm.MapAt w mf) (h : But (fun j => CT tt w j ∨ j = mf.b) w w') : Kp none w w' := by
  refine ⟨h.size, fun g cs t fr hg ht _ => (h.block g (Array.getElem?_eq_some_iff.1 hg).1 fun hc => ?_).trans hg⟩
  have hn := htt.n
  rcases hc with hc | rfl
  · rcases ht with rfl | rfl | rfl <;> rcases hc _ _ _ hg with e | e | e | e | e | e
    all_goals first | exact absurd e (by decide) | exact hn.2.2.2.2.1 e.symm | exact hn.2.2.2.2.2.1 e.symm | exact hn.2.2.2.2.2.2.1 e.symm
  · obtain ⟨cs', hc⟩ := map_mb hm
    rw [hc] at hg
    simp only [Option.some.injEq, Obj.cells.injEq] at hg
    rcases ht with e | e | e
    all_goals rw [e] at hg; exact absurd hg.2.1 (by decide)

theorem takeW (hL : LPok LP w0 c nb V) (ht : Bm.Tab64 ws) (h6 : 1 < w0.heap.size) {s : WS} {w : World} (h : WJ LP w0 ws wb c U0 n at_ pb bl bc s w) (hb : s.b < 700000) :
    Calls Tryz.prog 63 #[.pointer (some ⟨wb, 0, none⟩)] w fun e w' => e = .returned (.tuple #[u32v (tk (Ino.frees n U0) s).1, .int .i64 (tk (Ino.frees n U0) s).2.1]) ∧ WJ LP w0 ws wb c U0 n at_ pb bl bc (tk (Ino.frees n U0) s).2.2 w' ∧ Kp none w w' := by
  obtain ⟨mf, sX, h1, h2, h3, h4, h5, h7⟩ := h.ex
  have hxl := h.xl
  have hsp : ∀ w', But (fun j => CT 71 w j ∨ j = mf.b) w w' → w'.ownsRow ws.heap.size 102 3 sX s.X.length (spotC s.X) := fun w' hb => own_butI h7 hb (fun j cs _ hk hs => by
    rcases hs with hs | rfl
    · exact ct_spot okW hk hs
    · obtain ⟨cs', hc⟩ := map_mb h2
      rw [hc] at hk
      simp only [Option.some.injEq, Obj.cells.injEq] at hk
      exact absurd hk.2.1 (by decide))
  refine (take_J hL okW h1 hb h3 h2 h5 (tab_ws ht h6 h1.fr)).mono ?_
  rintro e w' (⟨r, hr, rfl, h8, h9, h10⟩ | ⟨hr, rfl, h8, h9, h10⟩)
  · have e1 : tk (Ino.frees n U0) s = (BitVec.ofNat 32 r, 0, { s with b := s.b + 1, k := s.k + 1 }) := by unfold tk; rw [hr]
    rw [e1]
    exact ⟨rfl, ⟨⟨mf.turn r, sX, h8, h9, h3.step h2.fit hr, h4, h5, hsp w' h10⟩, Nat.le_succ_of_le hxl⟩, kp_ct okW h2 h10⟩
  · have e1 : tk (Ino.frees n U0) s = (0, 28, { s with b := s.b + 1 }) := by unfold tk; rw [hr]
    rw [e1]
    exact ⟨rfl, ⟨⟨mf, sX, h8, h9, h3, h4, h5, hsp w' h10⟩, Nat.le_succ_of_le hxl⟩, kp_ct okW h2 h10⟩

theorem slice_form {w : World} {base : Nat} {e : TypeId} {size : Nat} {v : Value} {n : Nat} {xs : List Value} (h : w.ownsRow base e size v n xs) : v = .slice none 0 0 ∨ ∃ g cap, v = .slice (some ⟨g, 0, none⟩) n cap := by
  rcases h.2 with ⟨e, _⟩ | ⟨g, cap, _, e, _⟩
  · exact .inl e
  · exact .inr ⟨g, cap, e⟩

set_option maxRecDepth 8000 in
set_option maxHeartbeats 2000000 in
theorem find_has (hL : LPok LP w0 c nb V) {s : WS} {w : World} (h : WJ LP w0 ws wb c U0 n at_ pb bl bc s w) (hb : s.b < 700000) (p : Nat) (x : BitVec 32) (hx : x ≠ 0) :
    Calls Tryz.prog 41 #[.pointer (some ⟨wb, 0, none⟩), .int .i64 (p : Nat), u32v x] w fun e w' => e = .returned (.tuple #[u32v x, .int .i64 0]) ∧ WJ LP w0 ws wb c U0 n at_ pb bl bc { s with b := s.b + 1, X := s.X ++ [(p, x, false)] } w' ∧ Kp none w w' := by
  obtain ⟨mf, sX, h1, h2, h3, h4, h5, h7⟩ := h.ex
  obtain ⟨sT, sG, sP, D, hw, hr⟩ := h1.blk
  have d7 : w.cell? ⟨wb, 7, none⟩ = some sX := hw.cell (i := 7) rfl
  have hxl := h.xl
  have hsz := h1.fr.size
  have q0 : ¬ (x.toNat : Int) = 0 := fun h => hx (BitVec.eq_of_toNat_eq (by simpa using h))
  have q3 : ((x.toNat : Int) == 0) = false := by rw [beq_eq_false_iff_ne]; exact q0
  obtain ⟨k0, hk0, hx0, hx1, hx2⟩ := info_parts Tryz.infoSpot
  have HC := hide (⟨h, h1, h2, h3, h4, h5, h7⟩ : _ ∧ _ ∧ _ ∧ _ ∧ _ ∧ _ ∧ _)
  have hform := slice_form h7
  obtain ⟨L, hLn⟩ : ∃ L, s.X.length = L := ⟨_, rfl⟩
  rw [hLn] at hform hxl
  have HLn := hide hLn
  unfold u32v
  clear hw hr h h1 h2 h3 h4 h5 h7 hx q0 hLn
  rcases hform with hs | ⟨gs, gc, hs⟩
  all_goals
    rw [hs] at d7
    go_enter Tryz.func41, Tryz.ntmps41
    go_wp2_with (at_builtin; refine Stop.out ?_)
    refine Stop.mk ?_
    refine wpList_append_own_at _ rfl _ _ 69 rfl ws.heap.size 102 k0 (.agg #[.int .i64 0, .int .u32 0, .bool false]) 3 16 Tryz.underlying69 hk0 hx0 hx1 hx2 rfl (by decide) sX L (spotC s.X) (by rw [hs]; rfl) (by have := HC.out.2.2.2.2.2.2.alloc (.cells #[.int .i64 (p : Int), .int .u32 (x.toNat : Int), .bool false] 102); rw [HLn.out] at this; exact this) ⟨w.heap.size, 0, none⟩ 1 1 [.int .i64 (p : Nat), u32v x, .bool false] rfl rfl (cell_three_new _ _ _ _ _) (by intro u hu; simp at hu; rcases hu with rfl | rfl | rfl <;> rfl) (by unfold maxLen; omega) (by omega) (by simp; omega) ?_
    intro v2 w2 hown2 hg2 _ hat2
    rw [← HLn.out] at hown2
    obtain ⟨⟨cs, hw2, h7c⟩, ⟨g, cap, rfl⟩, H1, H2⟩ := find_app hL HC.out.1 p x false HC.out.2.1 HC.out.2.2.1 HC.out.2.2.2.1 HC.out.2.2.2.2.1 HC.out.2.2.2.2.2.1 HC.out.2.2.2.2.2.2 hown2 hg2 hat2
    have d3 : w2.cell? ⟨wb, 7, none⟩ = some sX := hw2.cell h7c
    rw [hs] at d3
    have f3 : w2.frozen? ⟨wb, 7, none⟩ = false := frozenOf hw2 _
    rw [HLn.out] at H1 H2
    have HF := hide (And.intro H1 H2)
    rw [HLn.out]
    clear hown2 hg2 hat2 hw2 h7c H1 H2
    go_wp2
    go_ret2
    exact ⟨rfl, HF.out.1, HF.out.2⟩

set_option maxRecDepth 8000 in
set_option maxHeartbeats 2000000 in
theorem find_J (hL : LPok LP w0 c nb V) (ht : Bm.Tab64 ws) (h6 : 1 < w0.heap.size) {s : WS} {w : World} (h : WJ LP w0 ws wb c U0 n at_ pb bl bc s w) (hb : s.b + 4 ≤ 700000) (p : Nat) (x : BitVec 32) :
    Calls Tryz.prog 41 #[.pointer (some ⟨wb, 0, none⟩), .int .i64 (p : Nat), u32v x] w fun e w' => e = .returned (.tuple #[u32v (fnd (Ino.frees n U0) p x s).1, .int .i64 (fnd (Ino.frees n U0) p x s).2.1]) ∧ WJ LP w0 ws wb c U0 n at_ pb bl bc (fnd (Ino.frees n U0) p x s).2.2 w' ∧ Kp none w w' := by
  by_cases hx : x = 0
  · subst hx
    have cT := takeW hL ht h6 h (by omega)
    have hkb := tk_b (Ino.frees n U0) s
    have e0 : fnd (Ino.frees n U0) p 0 s = if (tk (Ino.frees n U0) s).2.1 = 0 then ((tk (Ino.frees n U0) s).1, 0, { (tk (Ino.frees n U0) s).2.2 with b := (tk (Ino.frees n U0) s).2.2.b + 1, X := (tk (Ino.frees n U0) s).2.2.X ++ [(p, (tk (Ino.frees n U0) s).1, true)] }) else (0, (tk (Ino.frees n U0) s).2) := by unfold fnd; rw [if_pos rfl]
    generalize tk (Ino.frees n U0) s = T at cT e0 hkb
    obtain ⟨r, er, s1⟩ := T
    dsimp only at cT e0 hkb
    have hbs : s1.b = s.b + 1 := hkb
    clear h
    by_cases her : er = 0
    · subst her
      rw [if_pos rfl] at e0
      rw [e0]
      obtain ⟨k0, hk0, hx0, hx1, hx2⟩ := info_parts Tryz.infoSpot
      clear e0 hkb
      unfold u32v at cT ⊢
      go_enter Tryz.func41, Tryz.ntmps41
      go_wp2_with (go_at_call 63; refine cT.mono ?_; rintro e w1 ⟨rfl, h1, hK1⟩; clear cT; refine Stop.out ?_)
      refine Stop.mk ?_
      have hxl := h1.xl
      obtain ⟨mf, sX, hc1, h2, h3, h4, h5, h7⟩ := h1.ex
      obtain ⟨sT, sG, sP, D, hw, hr⟩ := hc1.blk
      have d7 : w1.cell? ⟨wb, 7, none⟩ = some sX := hw.cell (i := 7) rfl
      have hsz := hc1.fr.size
      have HC := hide (⟨h1, hc1, h2, h3, h4, h5, h7⟩ : _ ∧ _ ∧ _ ∧ _ ∧ _ ∧ _ ∧ _)
      have hform := slice_form h7
      obtain ⟨L, hLn⟩ : ∃ L, s1.X.length = L := ⟨_, rfl⟩
      rw [hLn] at hform hxl
      have HLn := hide hLn
      have HK1 := hide hK1
      clear hw hr h1 hc1 h2 h3 h4 h5 h7 hLn hK1
      rcases hform with hs | ⟨gs, gc, hs⟩
      all_goals
        rw [hs] at d7
        go_wp2_with (at_builtin; refine Stop.out ?_)
        refine Stop.mk ?_
        refine wpList_append_own_at _ rfl _ _ 69 rfl ws.heap.size 102 k0 (.agg #[.int .i64 0, .int .u32 0, .bool false]) 3 16 Tryz.underlying69 hk0 hx0 hx1 hx2 rfl (by decide) sX L (spotC s1.X) (by rw [hs]; rfl) (by have := HC.out.2.2.2.2.2.2.alloc (.cells #[.int .i64 (p : Int), .int .u32 (r.toNat : Int), .bool true] 102); rw [HLn.out] at this; exact this) ⟨w1.heap.size, 0, none⟩ 1 1 [.int .i64 (p : Nat), u32v r, .bool true] rfl rfl (cell_three_new _ _ _ _ _) (by intro u hu; simp at hu; rcases hu with rfl | rfl | rfl <;> rfl) (by unfold maxLen; omega) (by omega) (by simp; omega) ?_
        intro v2 w2 hown2 hg2 _ hat2
        rw [← HLn.out] at hown2
        obtain ⟨⟨cs, hw2, h7c⟩, ⟨g, cap, rfl⟩, H1, H2⟩ := find_app hL HC.out.1 p r true HC.out.2.1 HC.out.2.2.1 HC.out.2.2.2.1 HC.out.2.2.2.2.1 HC.out.2.2.2.2.2.1 HC.out.2.2.2.2.2.2 hown2 hg2 hat2
        have d3 : w2.cell? ⟨wb, 7, none⟩ = some sX := hw2.cell h7c
        rw [hs] at d3
        have f3 : w2.frozen? ⟨wb, 7, none⟩ = false := frozenOf hw2 _
        rw [HLn.out] at H1 H2
        have HF := hide (And.intro H1 (HK1.out.trans H2))
        rw [HLn.out]
        clear hown2 hg2 hat2 hw2 h7c H1 H2
        go_wp2
        go_ret2
        exact ⟨rfl, HF.out.1, HF.out.2⟩
    · rw [if_neg her] at e0
      rw [e0]
      have q1 : (er != 0) = true := by simp [her]
      have q2 : (er == 0) = false := by simp [her]
      clear e0 hkb
      unfold u32v at cT ⊢
      go_enter Tryz.func41, Tryz.ntmps41
      go_wp2_with (go_at_call 63; refine cT.mono ?_; rintro e w1 ⟨rfl, h1, hK1⟩; clear cT)
      go_ret2
      exact ⟨rfl, h1, hK1⟩
  · have e0 : fnd (Ino.frees n U0) p x s = (x, 0, { s with b := s.b + 1, X := s.X ++ [(p, x, false)] }) := by unfold fnd; rw [if_neg hx]
    rw [e0]
    exact find_has hL h (by omega) p x hx

theorem put_tag {w : World} {g : Nat} {bs : By} (h : w.heap[g]? = some (.cells (bs.map u8v).toArray 5 (0, 0))) : Bytes w (some ⟨g, 0, none⟩) bs := bytes_block h

/-- The hands of a write. -/
theorem handsW (hL : LPok LP w0 c nb V) (ht : Bm.Tab64 ws) (h6 : 1 < w0.heap.size) (f t : Nat) : Hands (wOps (Ino.frees n U0) nb V) (fnd (Ino.frees n U0)) wb 41 ws.heap.size f t (.pointer (some ⟨wb, 0, none⟩)) true (WJ LP w0 ws wb c U0 n at_ pb bl bc) (·.b) 700000 where
  cost := w_cost _ _ _
  cvis := fnd_cost _
  len := w_len _ _ _
  low s w h := by obtain ⟨_, _, h1, _⟩ := h.ex; exact h1.fr.size
  tab s w w' S h hb hS := by
    obtain ⟨mf, sX, h1, h2, h3, h4, h5, h7⟩ := h.ex
    have hns : ∀ j cs t fr, w.heap[j]? = some (.cells cs t fr) → ¬ tabT t → ¬ S j := fun j cs t fr hj hn hs => by
      obtain ⟨_, cs', t', fr', hj', ht'⟩ := hS j hs
      rw [hj] at hj'
      simp only [Option.some.injEq, Obj.cells.injEq] at hj'
      exact hn (hj'.2.1 ▸ ht')
    obtain ⟨cs, hc⟩ := map_mb h2
    refine ⟨⟨mf, sX, h1.foreign hL hb (fun j hj => ?_), h2.keep (but_only hb) (hns _ _ _ _ h2.st (by unfold tabT; decide)) (hns _ _ _ _ hc (by unfold tabT; decide)), h3, h4, h5, own_butI h7 hb (fun j cs _ hk => hns j cs _ _ hk (by unfold tabT; decide))⟩, h.xl⟩
    obtain ⟨hl, cs', t', fr', hj', ht'⟩ := hS j hj
    refine ⟨hl, cs', t', fr', hj', ?_⟩
    rcases ht' with rfl | rfl
    · unfold foreignT; decide
    · unfold foreignT; decide
  enter := enters_of Tryz.func41 (by kernel_rfl) rfl
  take s w h hm _ := takeW hL ht h6 h hm
  get s w x h hm hx := by
    obtain ⟨mf, sX, h1, h2, h3, h4, h5, h7⟩ := h.ex
    by_cases hn : x.toNat < nb
    · have e : (wOps (Ino.frees n U0) nb V).get s x = (tabOf (V x.toNat), 0, { s with b := s.b + 1 }) := if_pos hn
      rw [e]
      refine (get_J hL okW h1 hm x hn).mono ?_
      rintro e w' ⟨g, cap, rfl, h8, h9, h10, h11⟩
      have hct : But (CT 71 w) w w' := ct_cmn h9
      obtain ⟨g2, cap2, hg2, hg3, hg4⟩ := owns_bytes h10 (by omega)
      cases hg2
      refine ⟨WJ.step (b' := s.b + 1) hct h2 h3 h4 h5 h7 h.xl (Nat.le_succ _) (h8 w' (But.refl _ _)), ct_kp okW hct, .inl ⟨V x.toNat, g, cap, rfl, rfl, hg4, h11, ?_, rfl⟩⟩
      rcases h10.2 with ⟨e, _⟩ | ⟨g', cap', cur', e, _, _, hcap, _⟩
      · cases e
      · cases e; exact hcap
    · have e : (wOps (Ino.frees n U0) nb V).get s x = (Ino.zT, 22, { s with b := s.b + 1 }) := if_neg hn
      rw [e]
      refine (getbad_J hL h1 x (by omega)).mono ?_
      rintro e w' ⟨rfl, hb⟩
      have hct : But (CT 71 w) w w' := ct_below hb
      obtain ⟨l1, l2, l3⟩ := h1.len
      have h8 := h1.foreign hL (But.of_below (S := fun _ => False) hb) (fun _ h => h.elim)
      exact ⟨WJ.step (b' := s.b + 1) hct h2 h3 h4 h5 h7 h.xl (Nat.le_succ _) ⟨hL.more _ _ h8.lp, h8.fr, h8.hlo, h8.lo, h8.blk, Nat.le_succ_of_le l1, Nat.le_succ_of_le l2, Nat.le_succ_of_le l3⟩, ct_kp okW hct, .inr ⟨by simp, _, rfl⟩⟩
  give s w x h hm := by
    obtain ⟨mf, sX, h1, h2, h3, h4, h5, h7⟩ := h.ex
    refine (give_J hL okW h1 hm x).mono ?_
    rintro e w' ⟨rfl, h8, h9⟩
    exact ⟨rfl, WJ.step h9 h2 h3 h4 h5 h7 h.xl (Nat.le_succ _) h8, ct_kp okW h9⟩
  put s w x bs g h hm hl hg hlo := by
    obtain ⟨mf, sX, h1, h2, h3, h4, h5, h7⟩ := h.ex
    refine (put_J hL okW h1 hm x g 512 bs (put_tag hg) hl ⟨_, _, hg⟩ hlo).mono ?_
    rintro e w' ⟨rfl, h8, h9⟩
    exact ⟨rfl, WJ.step h9 h2 h3 h4 h5 h7 h.xl (Nat.le_succ _) h8, ct_kp okW h9⟩
  visit s w p x h hm _ _ := find_J hL ht h6 h hm p x

end
end Go.Proofs.YtebdgcoandfocaaGreatDoor

/-
  Package inode: a spot of a write is filled.
-/
namespace Go.Proofs.YtebdgcoandfocaaGreatDoor
open Go.RowKit Go.Maps Go.Sort Go.Shelf

/-- Bytes with others at a place. -/
def splB (base : By) (o : Nat) (d : By) : By := base.take o ++ d ++ base.drop (o + d.length)
theorem splB_length {base d : By} {o : Nat} (h : o + d.length ≤ base.length) : (splB base o d).length = base.length := by
  unfold splB; rw [List.length_append, List.length_append, List.length_take, List.length_drop]; omega

theorem copy_fill (W : World) (g cap lo bg q o ln sc : Nat) (base d : By) (hrow : W.ownsRow lo 5 1 (.slice (some ⟨g, 0, none⟩) 512 cap) 512 (base.map u8v)) (hd : d.length = ln) (hsrc : ∀ j x, d[j]? = some x → W.cell? ⟨bg, q + j, none⟩ = some (u8v x)) (ho : o + ln ≤ 512) :
    ∃ W', (∀ ty, (Builtin.copy_ #[30, 30] ty #[.slice (some ⟨g, o, none⟩) (512 - o) (cap - o), .slice (some ⟨bg, q, none⟩) ln sc]).run Tryz.prog W = .ok (.int .i64 (ln : Nat)) W') ∧ Bytes W' (some ⟨g, 0, none⟩) (splB base o d) ∧ (∃ cs fr, W'.heap[g]? = some (.cells cs 5 fr)) ∧ But (fun k => k = g) W W' := by
  have hbl : base.length = 512 := by simpa using hrow.1
  rcases hrow.2 with ⟨e, _⟩ | ⟨g', cap', cur, e, hlo, hblk, hcap, hmx, hcs, htk⟩
  · cases e
  cases e
  have hcur : 512 ≤ cur.size := by omega
  refine ⟨_, fun ty => (run_copy_row (P := Tryz.prog) W 30 30 ty 5 g o (512 - o) (cap - o) ⟨bg, q, none⟩ ln sc cur 5 (d.map u8v) Tryz.underlying30 Tryz.size5 hblk (by rw [List.length_map, hd]; exact (Nat.min_eq_left (by omega)).symm) (fun j v hj => ?_) (by rw [List.length_map]; omega) (u8v_one d)).trans (by rw [List.length_map, hd]; rfl), ?_, ?_, ?_⟩
  · rw [List.getElem?_map] at hj
    obtain ⟨x, hx, rfl⟩ := Option.map_eq_some_iff.1 hj
    rw [Addr.add_lit]
    exact hsrc j x hx
  · have hrow' := setRow_heap W g cur (cur.toList.take o ++ d.map u8v ++ cur.toList.drop (o + ln)).toArray 5 (0, 0) hblk
    intro _
    refine ⟨g, 0, rfl, fun i x hi => ?_⟩
    rw [Nat.zero_add, cellOf hrow' i, List.getElem?_toArray]
    have htake : cur.toList.take o = (base.take o).map u8v := by
      rw [List.map_take, ← htk, List.take_take]; congr 1; omega
    have hlen : (splB base o d).length = 512 := by rw [splB_length (by omega)]; exact hbl
    have hi5 : i < 512 := by have := (List.getElem?_eq_some_iff.1 hi).1; omega
    have e1 : (cur.toList.take o ++ d.map u8v ++ cur.toList.drop (o + ln)).take 512 = (splB base o d).map u8v := by
      unfold splB
      rw [htake, List.map_append, List.map_append, List.map_drop, ← htk, hd, List.take_append, List.drop_take]
      rw [List.take_of_length_le (by simp; omega)]
      congr 2
      simp; omega
    have e2 : (cur.toList.take o ++ d.map u8v ++ cur.toList.drop (o + ln))[i]? = ((cur.toList.take o ++ d.map u8v ++ cur.toList.drop (o + ln)).take 512)[i]? := by rw [List.getElem?_take, if_pos hi5]
    rw [e2, e1, List.getElem?_map, hi]; rfl
  · exact ⟨_, _, setRow_heap W g cur _ 5 (0, 0) hblk⟩
  · exact ⟨rfl, rfl, rfl, by simp, fun k _ hn => setRow_other W g k _ hn⟩

section
variable {LP : Nat → World → Prop} {w0 ws : World} {wb c nb : Nat} {V : Nat → By} {U0 : Nat → Bool} {n at_ : Nat} {pb : Option Addr} {bl bc bg bo : Nat}

theorem WJ.below {pb : Option Addr} (hL : LPok LP w0 c nb V) {s : WS} {w w' : World} (h : WJ LP w0 ws wb c U0 n at_ pb bl bc s w) (hb : Below w.heap.size w w') : WJ LP w0 ws wb c U0 n at_ pb bl bc s w' := by
  obtain ⟨mf, sX, h1, h2, h3, h4, h5, h7⟩ := h.ex
  exact ⟨⟨mf, sX, h1.foreign hL (But.of_below (S := fun _ => False) hb) (fun _ h => h.elim), h2.below hb, h3, h4, h5, own_butI h7 (But.of_below (S := fun _ => False) hb) (fun _ _ _ _ h => h)⟩, h.xl⟩

/-- What a spot is filled with. -/
def fillB (V : Nat → By) (at_ : Nat) (bs : By) (p : Nat) (x : BitVec 32) (fr : Bool) : By :=
  splB (if fr = true ∨ min (at_ + bs.length) (p * 512 + 512) - max at_ (p * 512) = 512 then Ino.z512 else V x.toNat) (max at_ (p * 512) - p * 512) ((bs.drop (max at_ (p * 512) - at_)).take (min (at_ + bs.length) (p * 512 + 512) - max at_ (p * 512)))
def filS (V : Nat → By) (at_ : Nat) (bs : By) (s : WS) (q : Nat × BitVec 32 × Bool) : WS := { s with b := s.b + (if q.2.2 = true ∨ min (at_ + bs.length) (q.1 * 512 + 512) - max at_ (q.1 * 512) = 512 then 1 else 2), P := s.P ++ [(q.2.1.toNat, fillB V at_ bs q.1 q.2.1 q.2.2)] }

set_option maxRecDepth 8000 in
set_option maxHeartbeats 4000000 in
theorem fill_new (hL : LPok LP w0 c nb V) {s : WS} {w : World} (h : WJ LP w0 ws wb c U0 n at_ (some ⟨bg, bo, none⟩) bl bc s w) (hb : s.b + 4 ≤ 700000) (bs : By) (hbs : Bytes w (some ⟨bg, bo, none⟩) bs) (hbl : bs.length = bl) (hb1 : 1 ≤ bl) (hbc : bl ≤ bc) (hmx : at_ + bl ≤ 65536) (p : Nat) (x : BitVec 32) (fr : Bool) (hp1 : at_ < p * 512 + 512) (hp2 : p * 512 < at_ + bl)
    (hfr : fr = true ∨ min (at_ + bl) (p * 512 + 512) - max at_ (p * 512) = 512) :
    Calls Tryz.prog 42 #[.pointer (some ⟨wb, 0, none⟩), .agg #[.int .i64 (p : Nat), u32v x, .bool fr]] w fun e w' => e = .returned (.int .i64 0) ∧ WJ LP w0 ws wb c U0 n at_ (some ⟨bg, bo, none⟩) bl bc (filS V at_ bs s (p, x, fr)) w' ∧ But (CT 71 w) w w' := by
  obtain ⟨B, hB⟩ : ∃ B, p * 512 = B := ⟨_, rfl⟩
  obtain ⟨f, hf⟩ : ∃ f, max at_ B = f := ⟨_, rfl⟩
  obtain ⟨t, ht⟩ : ∃ t, min (at_ + bl) (B + 512) = t := ⟨_, rfl⟩
  have hft : f < t := by omega
  have hfo : B ≤ f ∧ at_ ≤ f ∧ t ≤ at_ + bl ∧ t ≤ B + 512 := by omega
  obtain ⟨o, ho⟩ : ∃ o, f - B = o := ⟨_, rfl⟩
  obtain ⟨so, hso⟩ : ∃ so, f - at_ = so := ⟨_, rfl⟩
  obtain ⟨eo, heo⟩ : ∃ eo, t - at_ = eo := ⟨_, rfl⟩
  have eB : (p : Int) * 512 = (B : Nat) := by omega
  have ef : max (at_ : Int) (B : Int) = (f : Nat) := by omega
  have et : min ((at_ : Int) + (bl : Int)) ((B : Int) + 512) = (t : Nat) := by omega
  have eo1 : (f : Int) - (B : Int) = (o : Nat) := by omega
  have eso : (f : Int) - (at_ : Int) = (so : Nat) := by omega
  have eeo : (t : Int) - (at_ : Int) = (eo : Nat) := by omega
  have hfs : filS V at_ bs s (p, x, fr) = { s with b := s.b + 1, P := s.P ++ [(x.toNat, splB Ino.z512 o ((bs.drop so).take (eo - so)))] } := by
    rw [hB, hf, ht] at hfr
    unfold filS fillB
    dsimp only
    rw [hbl, hB, hf, ht, ho, hso, if_pos hfr, if_pos hfr, show t - f = eo - so by omega]
  rw [hfs]
  obtain ⟨mf, sX, hc, h2, h3, h4, h5, h7⟩ := h.ex
  obtain ⟨sT, sG, sP, D, hw, hr⟩ := hc.blk
  obtain ⟨w1, hw1⟩ : ∃ w1, w1 = w.alloc (.cells #[.int .i64 (p : Nat), u32v x, .bool fr] 102) := ⟨_, rfl⟩
  have hs1 : w1.heap.size = w.heap.size + 1 := by rw [hw1]; simp
  have hB1 : Below w.heap.size w w1 := by rw [hw1]; exact (Below.refl _ w).alloc (Nat.le_refl _) _
  have hx1 : BlkAt w1 w.heap.size [.int .i64 (p : Nat), u32v x, .bool fr] 102 := by rw [hw1]; exact heap_alloc_new w _
  have a0 := hx1.cell (i := 0) rfl
  have a1 := hx1.cell (i := 1) rfl
  have a2 := hx1.cell (i := 2) rfl
  have hwb1 := hw.below hB1
  have b5 := hwb1.cell (i := 5) rfl
  have b6 := hwb1.cell (i := 6) rfl
  unfold u32v at a1 hw1 ⊢
  have hfr' : fr = true ∨ (fr = false ∧ ¬ ((t : Int) - (f : Int) < 512)) := by
    cases fr with
    | true => exact .inl rfl
    | false =>
      rcases hfr with e | e
      · cases e
      · exact .inr ⟨rfl, by omega⟩
  have hwsz := hc.fr.size
  have HW := hide (⟨h, hbs, hw, hB1, hx1⟩ : _ ∧ _ ∧ _ ∧ _ ∧ _)
  clear h hc h2 h3 h4 h5 h7 hr hw hwb1 hbs hfs hB hf ht ho hso heo hfr
  obtain ⟨zs, hzs⟩ : ∃ zs, zs = List.replicate 512 (Value.int .u8 0) := ⟨_, rfl⟩
  have hmk : ∀ W : World, (Instr.makeSlice 30 (.int .i64 512) (.int .i64 512)).run Tryz.prog W = .ok (.slice (some ⟨W.heap.size, 0, none⟩) 512 512) (W.alloc (.cells zs.toArray 5)) := fun W => by rw [hzs]; exact imake W 512 (by omega)
  have HZ := hide hzs
  clear hzs
  rcases hfr' with hfr' | ⟨hfr', hnl⟩
  all_goals
    subst hfr'
    go_enter Tryz.func42, Tryz.ntmps42
    go_wp2_with fail
    rw [← hw1]
    clear hw1
    go_quiet (fail)
    go_wp2_with fail
  all_goals
    generalize hw2 : (w1.drewN nq).alloc (.cells zs.toArray 5) = w2
    have hB2 : Below w1.heap.size w1 w2 := by rw [← hw2]; exact (below_drewN (Below.refl _ w1) nq).alloc (Nat.le_refl _) _
    have hx2 : w2.heap[w.heap.size + 1]? = some (.cells zs.toArray 5 (0, 0)) := by rw [← hs1, ← hw2]; exact heap_alloc_new (w1.drewN nq) _
    have hB02 : Below w.heap.size w w2 := HW.out.2.2.2.1.trans (hB2.mono (by omega))
    clear hw2 a0 a1 a2 b5 b6
    have hx1' := HW.out.2.2.2.2.below hB2
    have a1 := hx1'.cell (i := 1) rfl
    have hwb2 := HW.out.2.2.1.below hB02
    have b5 := hwb2.cell (i := 5) rfl
    have b6 := hwb2.cell (i := 6) rfl
    have hbs2 := below_bytes hB02 HW.out.2.1
    have hz5 : zs = Ino.z512.map u8v := by rw [HZ.out, Ino.z512, List.map_replicate]; rfl
    have hown : w2.drew.ownsRow w.heap.size 5 1 (.slice (some ⟨w.heap.size + 1, 0, none⟩) 512 512) 512 (Ino.z512.map u8v) := by
      refine ⟨rfl, .inr ⟨_, _, zs.toArray, rfl, by omega, hx2, Nat.le_refl _, by unfold maxLen; omega, by rw [HZ.out]; simp, ?_⟩⟩
      rw [← hz5, HZ.out]; simp
    obtain ⟨w3, hcp, hby3, htg3, hb3⟩ := copy_fill w2.drew (w.heap.size + 1) 512 w.heap.size bg (bo + so) o (eo - so) (bc - so) Ino.z512 ((bs.drop so).take (eo - so)) hown (by rw [List.length_take, List.length_drop]; omega) (fun j x hj => by
      rw [List.getElem?_take] at hj
      split at hj
      · rw [List.getElem?_drop] at hj
        obtain ⟨s', o', e', hxx⟩ := hbs2 (by omega)
        cases e'
        show w2.cell? ⟨bg, bo + so + j, none⟩ = _
        rw [Nat.add_assoc]
        exact hxx _ _ hj
      · cases hj) (by omega)
    have ho5 : ¬ o = 512 := by omega
    have hoc : ¬ bc = so := by omega
    have hoc' : ¬ so = bc := by omega
    have hx13 := BlkAt.but (w := w2.drew) hx1' hb3 (show ¬ (w.heap.size = w.heap.size + 1) by omega)
    have HF := hide (⟨hby3, htg3, hb3, hB02, hx13⟩ : _ ∧ _ ∧ _ ∧ _ ∧ _)
    clear hx13
    clear hx2 hB2 hown hby3 htg3 hb3 hbs2 hwb2 hx1' hz5 hB02 hmk HZ
    go_region
    clear hcp a1 b5 b6
    have hBw3 : Below w.heap.size w w3.drew := (HF.out.2.2.2.1.drew.trans (HF.out.2.2.1.below (B := w.heap.size) HF.out.2.2.2.1.size (fun k hk => by have : k = w.heap.size + 1 := hk; omega))).drew
    have h3 := HW.out.1.below hL hBw3
    obtain ⟨mf, sX, hc3, h32, h33, h34, h35, h37⟩ := h3.ex
    have cP := put_J hL okW hc3 (by omega) x (w.heap.size + 1) 512 (splB Ino.z512 o ((bs.drop so).take (eo - so))) HF.out.1 (by rw [splB_length (by rw [List.length_take, List.length_drop]; show _ ≤ (List.replicate 512 0#8).length; rw [List.length_replicate]; omega)]; exact List.length_replicate) HF.out.2.1 (by have := hwsz; omega)
    have hx13 := HF.out.2.2.2.2
    have a1 := hx13.cell (i := 1) rfl
    have HK3 : Hid (But (CT 71 w) w w3.drew) := ct_below hBw3
    have H3 := hide (⟨h32, h33, h34, h35, h37, h3.xl⟩ : _ ∧ _ ∧ _ ∧ _ ∧ _ ∧ _)
    unfold u32v at a1 cP
    clear hBw3 h3 hc3 h32 h33 h34 h35 h37 hx13 HF
    go_wp2_with fail
    go_region_with (go_at_call 64; refine cP.mono ?_; rintro e w4 ⟨rfl, h8, h9⟩)
    all_goals
      have H4 := hide (WJ.step (LP := LP) (w0 := w0) (wb := wb) (c := c) (s := s) (at_ := at_) (pb := some ⟨bg, bo, none⟩) (bl := bl) (bc := bc) h9 H3.out.1 H3.out.2.1 H3.out.2.2.1 H3.out.2.2.2.1 H3.out.2.2.2.2.1 H3.out.2.2.2.2.2 (Nat.le_succ _) h8)
      have HK4 := hide (ct_trans HK3.out h9)
      clear cP h8 h9
      go_wp2
      go_ret
      exact ⟨rfl, H4.out, HK4.out⟩

end
end Go.Proofs.YtebdgcoandfocaaGreatDoor

/-
  What a write leaves of a file. Pure: no program.
-/
namespace Go.Proofs.YtebdgcoandfocaaGreatDoor
open Go.RowKit

theorem File.tabOk {n : Nat} {U : Nat → Bool} {V : Nat → By} {G : Ino.Gs} {sz : Nat} {W : Nat → BitVec 8} (h : Ino.File n U V G sz W) : TabOk n V G := by
  have h1 : (Ino.tab1 G).length = 64 := by simp [Ino.tab1]
  have h2 : (Ino.tab2 G).length = 64 := by simp [Ino.tab2]
  have h3 : (Ino.tabd G).length = 64 := by simp [Ino.tabd]
  refine ⟨fun e => ?_, fun e => ⟨h.lt _ e, by rw [h.t1 e, tabOf_tabB _ h1]⟩, fun e => ?_, fun e => ⟨h.lt _ e, by rw [h.t2 e, tabOf_tabB _ h2]⟩, fun e => ?_, fun e => ⟨h.lt _ e, by rw [h.td e, tabOf_tabB _ h3]⟩⟩
  · refine Ino.tab1_zero.2 fun p p1 p2 => Classical.byContradiction fun hn => ?_
    exact (h.one.2 ⟨p, p1, p2, hn⟩) e
  · refine Ino.tab2_zero.2 fun p p1 p2 => Classical.byContradiction fun hn => ?_
    exact (h.two.2 ⟨p, p1, p2, hn⟩) e
  · have : G 130 = 0 := Classical.byContradiction fun hn => (h.dbl.2 hn) e
    unfold Ino.tabd Ino.zT
    rw [this]; rfl

/-- The fills of a write, one after another. -/
theorem fils_all (V : Nat → By) (at_ : Nat) (bs : By) : ∀ (X : List (Nat × BitVec 32 × Bool)) (s : WS), ∃ b', X.foldl (filS V at_ bs) s = { s with b := b', P := s.P ++ X.map fun q => (q.2.1.toNat, fillB V at_ bs q.1 q.2.1 q.2.2) }
  | [], s => ⟨s.b, by simp⟩
  | q :: X, s => by
    obtain ⟨b', e⟩ := fils_all V at_ bs X (filS V at_ bs s q)
    refine ⟨b', ?_⟩
    rw [List.foldl_cons, e]
    unfold filS
    simp

/-- Numbers that are set. -/
theorem sets_used : ∀ (T : List Nat) (m : Bm.MS), (∀ i ∈ T, i < m.n) → Bm.Fit m.n m.ws → (∀ x, x < m.n → (Bm.used (T.foldl setM m).ws x = true ↔ Bm.used m.ws x = true ∨ x ∈ T)) ∧ (T.foldl setM m).n = m.n
  | [], m, _, _ => ⟨fun x _ => by simp, rfl⟩
  | i :: T, m, h, hf => by
    have hi := h i List.mem_cons_self
    have hs : (setM m i).n = m.n ∧ Bm.Fit (setM m i).n (setM m i).ws ∧ ∀ x, x < m.n → (Bm.used (setM m i).ws x = true ↔ Bm.used m.ws x = true ∨ x = i) := by
      unfold setM
      split
      · rename_i hu
        refine ⟨rfl, hf, fun x _ => ⟨.inl, ?_⟩⟩
        rintro (h | rfl)
        · exact h
        · exact hu
      · rename_i hu
        refine ⟨rfl, hf.turned i, fun x _ => ?_⟩
        show Bm.used (Bm.turned m.ws i) x = true ↔ _
        rw [Bm.turned_used (by have := hf.len; omega)]
        by_cases hx : x = i
        · subst hx
          rw [if_pos rfl]
          simp [hu]
        · rw [if_neg hx]
          simp [hx]
    obtain ⟨s1, s2, s3⟩ := hs
    obtain ⟨r1, r2⟩ := sets_used T (setM m i) (fun j hj => by rw [s1]; exact h j (List.mem_cons_of_mem _ hj)) s2
    rw [List.foldl_cons]
    refine ⟨fun x hx => ?_, r2.trans s1⟩
    rw [r1 x (by rw [s1]; exact hx), s3 x hx, List.mem_cons]
    constructor
    · rintro ((h | h) | h)
      · exact .inl h
      · exact .inr (.inl h)
      · exact .inr (.inr h)
    · rintro (h | h | h)
      · exact .inl (.inl h)
      · exact .inl (.inr h)
      · exact .inr h

theorem mem_wSpan {f t p : Nat} (ht : t ≤ 128) (hft : f < t) : p ∈ wSpan f t ↔ f ≤ p ∧ p < t := by
  unfold wSpan
  split <;> split
  all_goals simp only [List.mem_append, Ino.mem_span, List.not_mem_nil, or_false]
  all_goals constructor
  all_goals intro h
  all_goals omega
theorem wSpan_length {f t : Nat} (ht : t ≤ 128) : (wSpan f t).length ≤ 128 := by
  unfold wSpan
  split <;> split
  all_goals simp only [List.length_append, Ino.span_length, List.length_nil]
  all_goals omega

/-- What a spot is filled with is the file's block. -/
theorem fillB_slab {V : Nat → By} {at_ : Nat} {bs : By} {p : Nat} {x : BitVec 32} {fr : Bool} {W : Nat → BitVec 8} (hp1 : at_ < p * 512 + 512) (hp2 : p * 512 < at_ + bs.length) (hb1 : 1 ≤ bs.length) (hfr : fr = true → Ino.slab W p = Ino.z512) (hV : fr = false → V x.toNat = Ino.slab W p) :
    fillB V at_ bs p x fr = Ino.slab (Ino.wrote W at_ bs) p := by
  have hsl : (Ino.slab W p).length = 512 := by simp [Ino.slab]
  have hz : Ino.z512.length = 512 := List.length_replicate
  obtain ⟨base, hbase, hbl, hb2⟩ : ∃ base, (if fr = true ∨ min (at_ + bs.length) (p * 512 + 512) - max at_ (p * 512) = 512 then Ino.z512 else V x.toNat) = base ∧ base.length = 512 ∧ (base = Ino.slab W p ∨ min (at_ + bs.length) (p * 512 + 512) - max at_ (p * 512) = 512) := by
    refine ⟨_, rfl, ?_, ?_⟩
    · split
      · exact hz
      · rename_i hc
        rw [hV (by cases fr; rfl; exact absurd (.inl rfl) hc)]; exact hsl
    · by_cases hc : min (at_ + bs.length) (p * 512 + 512) - max at_ (p * 512) = 512
      · exact .inr hc
      · left
        cases fr with
        | true => rw [if_pos (.inl rfl)]; exact (hfr rfl).symm
        | false => rw [if_neg (by simp [hc])]; exact hV rfl
  unfold fillB
  rw [hbase]
  apply List.ext_getElem?
  intro j
  have hlen : (splB base (max at_ (p * 512) - p * 512) ((bs.drop (max at_ (p * 512) - at_)).take (min (at_ + bs.length) (p * 512 + 512) - max at_ (p * 512)))).length = 512 := by
    rw [splB_length (by rw [List.length_take, List.length_drop]; omega)]; exact hbl
  by_cases hj : j < 512
  · have hr : (Ino.slab (Ino.wrote W at_ bs) p)[j]? = some (Ino.wrote W at_ bs (p * 512 + j)) := by simp [Ino.slab, hj]
    rw [hr]
    have hd : ((bs.drop (max at_ (p * 512) - at_)).take (min (at_ + bs.length) (p * 512 + 512) - max at_ (p * 512))).length = min (at_ + bs.length) (p * 512 + 512) - max at_ (p * 512) := by rw [List.length_take, List.length_drop]; omega
    have hbj : (base = Ino.slab W p) → base[j]? = some (W (p * 512 + j)) := fun e => by rw [e]; simp [Ino.slab, hj]
    unfold splB Ino.wrote
    rw [hd]
    by_cases c1 : j < max at_ (p * 512) - p * 512
    · rw [List.append_assoc, List.getElem?_append_left (by rw [List.length_take]; omega), List.getElem?_take, if_pos c1, if_neg (by omega)]
      rcases hb2 with e | e
      · exact hbj e
      · omega
    · by_cases c2 : j < max at_ (p * 512) - p * 512 + (min (at_ + bs.length) (p * 512 + 512) - max at_ (p * 512))
      · rw [List.append_assoc, List.getElem?_append_right (by rw [List.length_take]; omega), List.length_take, List.getElem?_append_left (by rw [hd]; omega), List.getElem?_take, if_pos (by omega), List.getElem?_drop, if_pos (by omega)]
        have hi : max at_ (p * 512) - at_ + (j - min (max at_ (p * 512) - p * 512) base.length) = p * 512 + j - at_ := by omega
        rw [hi, List.getD_eq_getElem?_getD, List.getElem?_eq_getElem (by omega)]
        rfl
      · rw [List.getElem?_append_right (by rw [List.length_append, List.length_take, hd]; omega), List.length_append, List.length_take, hd, List.getElem?_drop, if_neg (by omega)]
        rcases hb2 with e | e
        · rw [show max at_ (p * 512) - p * 512 + (min (at_ + bs.length) (p * 512 + 512) - max at_ (p * 512)) + (j - (min (max at_ (p * 512) - p * 512) base.length + (min (at_ + bs.length) (p * 512 + 512) - max at_ (p * 512)))) = j by omega]
          exact hbj e
        · omega
  · rw [List.getElem?_eq_none (by rw [hlen]; omega), List.getElem?_eq_none (by simp [Ino.slab]; omega)]

end Go.Proofs.YtebdgcoandfocaaGreatDoor

/-
  What a write leaves of a file: all of it. Pure: no program.
-/
namespace Go.Proofs.YtebdgcoandfocaaGreatDoor
open Go.RowKit

def atG (G' : Ino.Gs) (q : Nat × By) : Nat × By := ((G' q.1).toNat, q.2)
theorem puts_idx {V : Nat → By} {G' : Ino.Gs} {Q : List (Nat × By)} (hn : (Q.map Prod.fst).Nodup) (hi : ∀ i j, G' i = G' j → G' i ≠ 0 → i = j) (hz : ∀ q ∈ Q, G' q.1 ≠ 0) :
    (∀ i d, (i, d) ∈ Q → Ino.putsV V (Q.map (atG G')) (G' i).toNat = d) ∧ (∀ i, i ∉ Q.map Prod.fst → G' i ≠ 0 → Ino.putsV V (Q.map (atG G')) (G' i).toNat = V (G' i).toNat) := by
  have hnd : ((Q.map (atG G')).map Prod.fst).Nodup := by
    rw [List.map_map]
    have hn' : Q.Pairwise fun a b => a.1 ≠ b.1 := by rwa [List.nodup_iff_pairwise_ne, List.pairwise_map] at hn
    rw [List.nodup_iff_pairwise_ne, List.pairwise_map]
    refine hn'.imp_of_mem ?_
    intro a b ha hb hab e
    exact hab (hi a.1 b.1 (BitVec.eq_of_toNat_eq e) (hz a ha))
  refine ⟨fun i d h => ?_, fun i h hz' => ?_⟩
  · exact Ino.putsV_mem (q := ((G' i).toNat, d)) hnd (List.mem_map.2 ⟨(i, d), h, rfl⟩)
  · refine Ino.putsV_not fun q hq e => ?_
    obtain ⟨a, ha, rfl⟩ := List.mem_map.1 hq
    have e : (G' a.1).toNat = (G' i).toNat := e
    have := hi a.1 i (BitVec.eq_of_toNat_eq e) (hz a ha)
    exact h (List.mem_map.2 ⟨a, ha, this⟩)

/-- A write's puts, by indices. -/
def wQ (f t : Nat) (G G' : Ino.Gs) (W' : Nat → BitVec 8) : List (Nat × By) :=
  (if (f < 72 ∧ 8 < t) ∧ Ino.tab1 G' ≠ Ino.tab1 G then [(128, Ino.tabB (Ino.tab1 G'))] else []) ++ (if 72 < t ∧ Ino.tab2 G' ≠ Ino.tab2 G then [(130, Ino.tabB (Ino.tab2 G'))] else []) ++ (if 72 < t ∧ Ino.tabd G' ≠ Ino.tabd G then [(129, Ino.tabB (Ino.tabd G'))] else []) ++ (wSpan f t).map fun p => (p, Ino.slab W' p)

theorem putIf_idx (c : Prop) [Decidable c] (G' : Ino.Gs) (i : Nat) (T T0 : List (BitVec 32)) : putIf c (G' i) T T0 = (if c ∧ T ≠ T0 then [(i, Ino.tabB T)] else []).map (atG G') := by
  unfold putIf
  by_cases h1 : c <;> by_cases h2 : T = T0
  all_goals simp [h1, h2, atG]

theorem wSpan_nodup {f t : Nat} : (wSpan f t).Nodup := by
  unfold wSpan
  rw [List.nodup_append, List.nodup_append]
  refine ⟨⟨Ino.span_nodup _ _, ?_, ?_⟩, ?_, ?_⟩
  · split
    · exact Ino.span_nodup _ _
    · exact List.nodup_nil
  · intro a ha b hb
    have h1 := Ino.mem_span.1 ha
    split at hb
    · have h2 := Ino.mem_span.1 hb; omega
    · cases hb
  · split
    · exact Ino.span_nodup _ _
    · exact List.nodup_nil
  · intro a ha b hb
    split at hb
    · have h2 := Ino.mem_span.1 hb
      rcases List.mem_append.1 ha with ha | ha
      · have h1 := Ino.mem_span.1 ha; omega
      · split at ha
        · have h1 := Ino.mem_span.1 ha; omega
        · cases ha
    · cases hb

set_option maxRecDepth 8000 in
set_option maxHeartbeats 1000000 in
/-- All that a write leaves. -/
theorem File.wrote {n : Nat} {U U' : Nat → Bool} {V : Nat → By} {G G' : Ino.Gs} {sz k at_ : Nat} {W : Nat → BitVec 8} {bs : By} (h : Ino.File n U V G sz W) (hn : n ≤ 65536) (hb1 : 1 ≤ bs.length) (hat : at_ + bs.length ≤ 65536)
    (he : Ino.ensure (Ino.freeB n U) G 0 (Ino.idx (at_ / 512) (blocksOf (at_ + bs.length))) = some (G', k))
    (hU : ∀ x, x < n → (U' x = true ↔ U x = true ∨ x ∈ (Ino.frees n U).take k))
    (P : List (Nat × By)) (hP : P = wPuts (at_ / 512) (blocksOf (at_ + bs.length)) G G' ++ (spots G G' (wSpan (at_ / 512) (blocksOf (at_ + bs.length)))).map fun q => (q.2.1.toNat, fillB V at_ bs q.1 q.2.1 q.2.2)) :
    Ino.File n U' (Ino.putsV V P) G' (max sz (at_ + bs.length)) (Ino.wrote W at_ bs) ∧ (∀ q ∈ P, q.1 < n) ∧ P.length ≤ 131 := by
  obtain ⟨f, hf⟩ : ∃ f, at_ / 512 = f := ⟨_, rfl⟩
  obtain ⟨t, ht0⟩ : ∃ t, blocksOf (at_ + bs.length) = t := ⟨_, rfl⟩
  rw [hf, ht0] at he hP
  have htd : t = (at_ + bs.length + 511) / 512 := by rw [← ht0]; rfl
  have ht : t ≤ 128 := by omega
  have hft : f < t := by omega
  have hfr := h.free (by omega)
  have E : Ino.Ens G (Ino.freeB n U) (Ino.idx f t) G' k := Ino.ensure_all h.inj (Ino.freeB_nodup (by omega)) hfr he
  have mi := fun x => @Ino.mem_idx f t x ht hft
  have keep : ∀ i, G i ≠ 0 → G' i = G i := E.tak.old
  have hlt' : ∀ i, G' i ≠ 0 → (G' i).toNat < n := by
    intro i hi
    by_cases hz : G i = 0
    · obtain ⟨j, _, hj⟩ := E.tak.new i hi hz
      exact (Ino.mem_freeB (by omega) (List.mem_of_getElem? hj)).1
    · rw [keep i hz]; exact h.lt i hz
  have hslab : ∀ p, p ∈ wSpan f t → fillB V at_ bs p (G' p) (decide (G p = 0)) = Ino.slab (Ino.wrote W at_ bs) p := by
    intro p hp
    obtain ⟨p1, p2⟩ := (mem_wSpan ht hft).1 hp
    have hd := h.data p (by omega)
    refine fillB_slab (by omega) (by omega) hb1 (fun e => ?_) (fun e => ?_)
    · have hz : G p = 0 := by simpa using e
      rw [← hd, Ino.cont, if_pos hz]
    · have hz : G p ≠ 0 := by simpa using e
      rw [keep p hz, ← hd, Ino.cont, if_neg hz]
  have hQ : P = (wQ f t G G' (Ino.wrote W at_ bs)).map (atG G') := by
    rw [hP]
    unfold wPuts wQ
    rw [List.map_append, List.map_append, List.map_append, ← putIf_idx, ← putIf_idx, ← putIf_idx]
    congr 1
    unfold spots
    rw [List.map_map, List.map_map]
    refine List.map_congr_left fun p hp => ?_
    show ((G' p).toNat, fillB V at_ bs p (G' p) (decide (G p = 0))) = ((G' p).toNat, _)
    rw [hslab p hp]
  have hmem : ∀ i d, (i, d) ∈ wQ f t G G' (Ino.wrote W at_ bs) ↔ ((i, d) = (128, Ino.tabB (Ino.tab1 G')) ∧ (f < 72 ∧ 8 < t) ∧ Ino.tab1 G' ≠ Ino.tab1 G) ∨ ((i, d) = (130, Ino.tabB (Ino.tab2 G')) ∧ 72 < t ∧ Ino.tab2 G' ≠ Ino.tab2 G) ∨ ((i, d) = (129, Ino.tabB (Ino.tabd G')) ∧ 72 < t ∧ Ino.tabd G' ≠ Ino.tabd G) ∨ (i ∈ wSpan f t ∧ d = Ino.slab (Ino.wrote W at_ bs) i) := by
    intro i d
    unfold wQ
    simp only [List.mem_append, List.mem_map]
    constructor
    · rintro (((hx | hx) | hx) | ⟨p, hp, hx⟩)
      · split at hx
        · rename_i hc; exact .inl ⟨List.mem_singleton.1 hx, hc⟩
        · cases hx
      · split at hx
        · rename_i hc; exact .inr (.inl ⟨List.mem_singleton.1 hx, hc⟩)
        · cases hx
      · split at hx
        · rename_i hc; exact .inr (.inr (.inl ⟨List.mem_singleton.1 hx, hc⟩))
        · cases hx
      · cases hx; exact .inr (.inr (.inr ⟨hp, rfl⟩))
    · rintro (⟨hx, hc⟩ | ⟨hx, hc⟩ | ⟨hx, hc⟩ | ⟨hp, rfl⟩)
      · rw [if_pos hc]; exact .inl (.inl (.inl (List.mem_singleton.2 hx)))
      · rw [if_pos hc]; exact .inl (.inl (.inr (List.mem_singleton.2 hx)))
      · rw [if_pos hc]; exact .inl (.inr (List.mem_singleton.2 hx))
      · exact .inr ⟨i, hp, rfl⟩
  have hin : ∀ q ∈ wQ f t G G' (Ino.wrote W at_ bs), q.1 ∈ Ino.idx f t := by
    rintro ⟨i, d⟩ hq
    rw [mi]
    rcases (hmem i d).1 hq with ⟨e, h1, _⟩ | ⟨e, h1, _⟩ | ⟨e, h1, _⟩ | ⟨h1, _⟩
    · cases e; exact .inr (.inl ⟨rfl, h1.1, h1.2⟩)
    · cases e; exact .inr (.inr ⟨.inr rfl, h1⟩)
    · cases e; exact .inr (.inr ⟨.inl rfl, h1⟩)
    · exact .inl ((mem_wSpan ht hft).1 h1)
  have hnd : ((wQ f t G G' (Ino.wrote W at_ bs)).map Prod.fst).Nodup := by
    unfold wQ
    rw [List.map_append, List.map_append, List.map_append, List.map_map]
    have e4 : (wSpan f t).map (Prod.fst ∘ fun p => (p, Ino.slab (Ino.wrote W at_ bs) p)) = wSpan f t := by
      rw [show (Prod.fst ∘ fun p => (p, Ino.slab (Ino.wrote W at_ bs) p)) = id from rfl, List.map_id]
    rw [e4, List.nodup_append]
    refine ⟨?_, wSpan_nodup, ?_⟩
    · split <;> split <;> split <;> simp
    · intro a ha b hb
      have h1 := (mem_wSpan ht hft).1 hb
      have h2 : a = 128 ∨ a = 130 ∨ a = 129 := by
        split at ha <;> split at ha <;> split at ha <;> simp at ha <;> omega
      omega
  obtain ⟨v1, v2⟩ := puts_idx (V := V) hnd E.tak.inj (fun q hq => E.has q.1 (hin q hq))
  rw [← hQ] at v1 v2
  have hvis1 : f < 72 → 8 < t → Ino.tab1 G' ≠ Ino.zT := fun h1 h2 e => E.has (max f 8) (by rw [mi]; exact .inl ⟨by omega, by omega⟩) (Ino.tab1_zero.1 e _ (by omega) (by omega))
  have hvis2 : 72 < t → Ino.tab2 G' ≠ Ino.zT := fun h2 e => E.has (max f 72) (by rw [mi]; exact .inl ⟨by omega, by omega⟩) (Ino.tab2_zero.1 e _ (by omega) (by omega))
  have tok := File.tabOk h
  have hni : ∀ i, i = 128 ∨ i = 129 ∨ i = 130 → (∀ d, (i, d) ∉ wQ f t G G' (Ino.wrote W at_ bs)) → i ∉ (wQ f t G G' (Ino.wrote W at_ bs)).map Prod.fst := fun i _ hd hm => by
    obtain ⟨⟨a, b⟩, ha, e⟩ := List.mem_map.1 hm
    cases e
    exact hd b ha
  refine ⟨h.write hft ht E (fun x hx => ⟨(hfr x hx).1, (Ino.mem_freeB (by omega) hx).1⟩) ?_ ?_ ?_ ?_ ?_ ?_ ?_ (by omega) (by have := h.le; omega) (Ino.wrote_zero h.zero) (by omega), ?_, ?_⟩
  · intro x hx
    rw [hU x hx]
    refine or_congr Iff.rfl ⟨fun hm => ?_, ?_⟩
    · obtain ⟨j, hj, hje⟩ := List.getElem_of_mem hm
      rw [List.length_take] at hj
      rw [List.getElem_take] at hje
      refine ⟨j, BitVec.ofNat 32 x, by omega, ?_, ?_⟩
      · unfold Ino.freeB
        rw [List.getElem?_map, List.getElem?_eq_getElem (by omega), hje]; rfl
      · rw [BitVec.toNat_ofNat, Nat.mod_eq_of_lt (by omega)]
    · rintro ⟨j, r, hj, hr, rfl⟩
      unfold Ino.freeB at hr
      rw [List.getElem?_map] at hr
      obtain ⟨y, hy, rfl⟩ := Option.map_eq_some_iff.1 hr
      have hyl := (Ino.mem_frees.1 (List.mem_of_getElem? hy)).1
      rw [BitVec.toNat_ofNat, Nat.mod_eq_of_lt (by omega)]
      obtain ⟨hy1, hy2⟩ := List.getElem?_eq_some_iff.1 hy
      exact List.mem_iff_getElem.2 ⟨j, by rw [List.length_take]; omega, by rw [List.getElem_take]; exact hy2⟩
  · intro h1 h2
    by_cases hc : Ino.tab1 G' = Ino.tab1 G
    · have hg : G 128 ≠ 0 := fun e => hvis1 h1 h2 (hc.trans (tok.o0 e))
      rw [v2 128 (hni 128 (.inl rfl) fun d hm => by
        rcases (hmem 128 d).1 hm with ⟨_, _, e⟩ | ⟨e, _⟩ | ⟨e, _⟩ | ⟨e, _⟩
        · exact e hc
        · cases e
        · cases e
        · have := (mem_wSpan ht hft).1 e; omega) (by rw [keep 128 hg]; exact hg), keep 128 hg, h.t1 hg, hc]
    · exact v1 128 _ ((hmem _ _).2 (.inl ⟨rfl, ⟨h1, h2⟩, hc⟩))
  · intro h2
    by_cases hc : Ino.tabd G' = Ino.tabd G
    · have h130 : G 130 ≠ 0 := fun e => by
        have e2 : G' 130 = G 130 := by have := congrArg (fun l => l[0]?) hc; simpa [Ino.tabd] using this
        exact E.has 130 (by rw [mi]; exact .inr (.inr ⟨.inr rfl, h2⟩)) (e2.trans e)
      have hg : G 129 ≠ 0 := h.dbl.2 h130
      rw [v2 129 (hni 129 (.inr (.inl rfl)) fun d hm => by
        rcases (hmem 129 d).1 hm with ⟨e, _⟩ | ⟨e, _⟩ | ⟨_, _, e⟩ | ⟨e, _⟩
        · cases e
        · cases e
        · exact e hc
        · have := (mem_wSpan ht hft).1 e; omega) (by rw [keep 129 hg]; exact hg), keep 129 hg, h.td hg, hc]
    · exact v1 129 _ ((hmem _ _).2 (.inr (.inr (.inl ⟨rfl, h2, hc⟩))))
  · intro h2
    by_cases hc : Ino.tab2 G' = Ino.tab2 G
    · have hg : G 130 ≠ 0 := fun e => hvis2 h2 (hc.trans (tok.t0 e))
      rw [v2 130 (hni 130 (.inr (.inr rfl)) fun d hm => by
        rcases (hmem 130 d).1 hm with ⟨e, _⟩ | ⟨_, _, e⟩ | ⟨e, _⟩ | ⟨e, _⟩
        · cases e
        · exact e hc
        · cases e
        · have := (mem_wSpan ht hft).1 e; omega) (by rw [keep 130 hg]; exact hg), keep 130 hg, h.t2 hg, hc]
    · exact v1 130 _ ((hmem _ _).2 (.inr (.inl ⟨rfl, h2, hc⟩)))
  · intro p h1 h2
    exact v1 p _ ((hmem _ _).2 (.inr (.inr (.inr ⟨(mem_wSpan ht hft).2 ⟨h1, h2⟩, rfl⟩))))
  · intro i hi hg
    have := v2 i (fun hm => by
      obtain ⟨a, ha, e⟩ := List.mem_map.1 hm
      exact hi (e ▸ hin a ha)) (by rw [keep i hg]; exact hg)
    rwa [keep i hg] at this
  · intro p _ hnp
    exact Ino.wrote_out (by rw [hf]; rw [htd] at hnp; exact hnp)
  · intro q hq
    rw [hQ] at hq
    obtain ⟨a, ha, rfl⟩ := List.mem_map.1 hq
    exact hlt' a.1 (E.has a.1 (hin a ha))
  · rw [hQ, List.length_map]
    unfold wQ
    have := wSpan_length (f := f) ht
    simp only [List.length_append, List.length_map]
    split <;> split <;> split <;> simp <;> omega

end Go.Proofs.YtebdgcoandfocaaGreatDoor

/-
  Package inode: the hands of a cut.
-/
namespace Go.Proofs.YtebdgcoandfocaaGreatDoor
open Go.RowKit Go.Maps Go.Sort Go.Shelf

theorem spl_row (W : World) (g cap o ln : Nat) (base d : By) (cur : Array Value) (hblk : W.heap[g]? = some (.cells cur 5 (0, 0))) (hcs : cur.size = cap * 1) (hcap : 512 ≤ cap) (htk : cur.toList.take (512 * 1) = base.map u8v) (hbl : base.length = 512) (hd : d.length = ln) (ho : o + ln ≤ 512) :
    Bytes (W.setRow g (cur.toList.take o ++ d.map u8v ++ cur.toList.drop (o + ln)).toArray) (some ⟨g, 0, none⟩) (splB base o d) ∧ (∃ cs fr, (W.setRow g (cur.toList.take o ++ d.map u8v ++ cur.toList.drop (o + ln)).toArray).heap[g]? = some (.cells cs 5 fr)) ∧ But (fun k => k = g) W (W.setRow g (cur.toList.take o ++ d.map u8v ++ cur.toList.drop (o + ln)).toArray) := by
  have hcur : 512 ≤ cur.size := by omega
  have hrow' := setRow_heap W g cur (cur.toList.take o ++ d.map u8v ++ cur.toList.drop (o + ln)).toArray 5 (0, 0) hblk
  refine ⟨fun _ => ⟨g, 0, rfl, fun i x hi => ?_⟩, ⟨_, _, hrow'⟩, ⟨rfl, rfl, rfl, by simp, fun k _ hn => setRow_other W g k _ hn⟩⟩
  rw [Nat.zero_add, cellOf hrow' i, List.getElem?_toArray]
  have htake : cur.toList.take o = (base.take o).map u8v := by
    rw [List.map_take, ← htk, List.take_take]; congr 1; omega
  have hlen : (splB base o d).length = 512 := by rw [splB_length (by omega)]; exact hbl
  have hi5 : i < 512 := by have := (List.getElem?_eq_some_iff.1 hi).1; omega
  have e1 : (cur.toList.take o ++ d.map u8v ++ cur.toList.drop (o + ln)).take 512 = (splB base o d).map u8v := by
    unfold splB
    rw [htake, List.map_append, List.map_append, List.map_drop, ← htk, hd, List.take_append, List.drop_take]
    rw [List.take_of_length_le (by simp; omega)]
    congr 2
    simp; omega
  have e2 : (cur.toList.take o ++ d.map u8v ++ cur.toList.drop (o + ln))[i]? = ((cur.toList.take o ++ d.map u8v ++ cur.toList.drop (o + ln)).take 512)[i]? := by rw [List.getElem?_take, if_pos hi5]
  rw [e2, e1, List.getElem?_map, hi]; rfl

theorem clear_fill (W : World) (g cap lo o : Nat) (base : By) (hrow : W.ownsRow lo 5 1 (.slice (some ⟨g, 0, none⟩) 512 cap) 512 (base.map u8v)) (ho : o < 512) :
    ∃ W', (∀ ty, (Builtin.clear_ #[30] ty #[.slice (some ⟨g, o, none⟩) (512 - o) (cap - o)]).run Tryz.prog W = .ok (.tuple #[]) W') ∧ Bytes W' (some ⟨g, 0, none⟩) (splB base o (List.replicate (512 - o) 0#8)) ∧ (∃ cs fr, W'.heap[g]? = some (.cells cs 5 fr)) ∧ But (fun k => k = g) W W' := by
  have hbl : base.length = 512 := by simpa using hrow.1
  rcases hrow.2 with ⟨e, _⟩ | ⟨g', cap', cur, e, hlo, hblk, hcap, hmx, hcs, htk⟩
  · cases e
  cases e
  obtain ⟨i0, hi0, hz0, hz1, hz2⟩ := info_parts Tryz.info5
  have hv : ∀ w, (zeroValue 5).run Tryz.prog w = .ok (.int .u8 0) w := fun w => by simp [zeroValue, typeInfo, hi0, hz0]
  obtain ⟨k, hk⟩ : ∃ k, 512 - o = k + 1 := ⟨511 - o, by omega⟩
  have hzc : (Builtin.zeroCells (Value.int .u8 0).cells (k + 1)).toList = List.replicate (k + 1) (Value.int .u8 0) := by
    rw [show (Value.int .u8 0).cells = #[.int .u8 0] from rfl]
    simp [Builtin.zeroCells]
    apply List.ext_getElem
    · simp
    · intro i h1 h2
      simp [Nat.mod_one]
  have hst := run_storeCells_at Tryz.prog g o 5 (List.replicate (k + 1) (Value.int .u8 0)) 0 cur W hblk (by simp; omega) (by intro v hv; rw [List.eq_of_mem_replicate hv]; rfl)
  have hmap : (List.replicate (512 - o) 0#8).map u8v = List.replicate (k + 1) (Value.int .u8 0) := by rw [List.map_replicate, hk]; rfl
  obtain ⟨h1, h2, h3⟩ := spl_row W g cap o (512 - o) base (List.replicate (512 - o) 0#8) cur hblk hcs hcap htk hbl (by simp) (by omega)
  rw [hmap, hk] at h1 h2 h3
  refine ⟨_, fun ty => ?_, by rw [hk]; exact h1, h2, h3⟩
  rw [hk]
  simp [Builtin.clear_, run_underlying Tryz.underlying30, hv, hzc]
  rw [hst]
  simp

section
variable {LP : Nat → World → Prop} {w0 ws : World} {wb c nb : Nat} {V : Nat → By} {size : Nat}

/-- A cut in memory. -/
def TJ (LP : Nat → World → Prop) (w0 ws : World) (wb c size : Nat) (s : WS) (w : World) : Prop := CJ LP w0 ws ws.heap.size wb c 78 (.pointer none) [.int .i64 (size : Nat)] s.b [] s.G s.P w
theorem okC : okTT 78 := ⟨by unfold foreignT; decide, by decide⟩

/-- What a cut makes of a number. -/
def cutS (nb : Nat) (V : Nat → By) (size : Nat) : Ino.Stp WS := fun p x s =>
  if x = 0 then (0, 0, s) else if p * 512 < size then (if x.toNat < nb then (x, 0, { s with b := s.b + 2, P := s.P ++ [(x.toNat, splB (V x.toNat) (size - p * 512) (List.replicate (512 - (size - p * 512)) 0#8))] }) else (x, 22, { s with b := s.b + 1 }))
  else (0, 0, { s with b := s.b + 1, G := s.G ++ [x.toNat] })
theorem cutS_cost (nb : Nat) (V : Nat → By) (size p : Nat) (x : BitVec 32) (s : WS) : (cutS nb V size p x s).2.2.b ≤ s.b + 4 := by
  unfold cutS
  split
  · show s.b ≤ _; omega
  split
  · split
    · show s.b + 2 ≤ _; omega
    · show s.b + 1 ≤ _; omega
  · show s.b + 1 ≤ _; omega

set_option maxRecDepth 8000 in
set_option maxHeartbeats 2000000 in
theorem wipe_J (hL : LPok LP w0 c nb V) {s : WS} {w : World} (h : TJ LP w0 ws wb c size s w) (hb : s.b + 4 ≤ 700000) (x : BitVec 32) (hx : x.toNat < nb) (st : Nat) (hst : st < 512) :
    Calls Tryz.prog 44 #[.pointer (some ⟨wb, 0, none⟩), u32v x, .int .i64 (st : Nat)] w fun e w' => e = .returned (.int .i64 0) ∧ TJ LP w0 ws wb c size { s with b := s.b + 2, P := s.P ++ [(x.toNat, splB (V x.toNat) st (List.replicate (512 - st) 0#8))] } w' ∧ Kp none w w' := by
  have cG := get_J hL okC h (by omega) x hx
  unfold u32v at cG ⊢
  have hfr := CJ.fr h
  clear h
  go_enter Tryz.func44, Tryz.ntmps44
  go_wp2_with (go_at_call 47; refine cG.mono ?_; rintro e w1 ⟨g, cap, rfl, h1, h2, h3, h4⟩; clear cG; refine Stop.out ?_)
  refine Stop.mk ?_
  have hcap : 512 ≤ cap := by
    rcases h3.2 with ⟨e, _⟩ | ⟨g', cap', cur', e, _, _, hcap, _⟩
    · cases e
    · cases e; exact hcap
  obtain ⟨w2, hcl, hby, htg, hb2⟩ := clear_fill w1 g cap _ st (V x.toNat) h3 hst
  have hsc : ¬ st = cap := by omega
  have hsc' : ¬ cap = st := by omega
  have cP := put_J hL okC (h1 w2 hb2) (by omega) x g cap (splB (V x.toNat) st (List.replicate (512 - st) 0#8)) hby (by rw [splB_length (by rw [List.length_replicate]; omega)]; exact h4) htg (by have h5 := (own_type h3 (k := g) rfl).1; have h7 := hfr.size; omega)
  have hk1 : But (CT 78 w) w w2 := by
    have hct : But (CT 78 w) w w1 := ct_cmn h2
    have hg := (own_type h3 (k := g) rfl).1
    exact ⟨hb2.os.trans hct.os, hb2.tape.trans hct.tape, hb2.output.trans hct.output, Nat.le_trans hct.size hb2.size, fun k hk hn => (hb2.block k (Nat.lt_of_lt_of_le hk hct.size) (fun e => by have : k = g := e; omega)).trans (hct.block k hk hn)⟩
  have HK := hide hk1
  unfold u32v at cP
  clear hk1 h1 h2 h3 h4 hby htg hb2
  go_wp2_with (first | (go_at_call 64; refine cP.mono ?_; rintro e w3 ⟨rfl, h8, h9⟩; clear cP))
  go_ret
  exact ⟨rfl, h8, ct_kp okC (ct_trans HK.out h9)⟩

set_option maxRecDepth 8000 in
set_option maxHeartbeats 2000000 in
theorem cut_J (hL : LPok LP w0 c nb V) {s : WS} {w : World} (h : TJ LP w0 ws wb c size s w) (hb : s.b + 4 ≤ 700000) (hsz : size ≤ 65536) (p : Nat) (hp : size < p * 512 + 512) (hp2 : p < 10000) (x : BitVec 32) :
    Calls Tryz.prog 28 #[.pointer (some ⟨wb, 0, none⟩), .int .i64 (p : Nat), u32v x] w fun e w' => e = .returned (.tuple #[u32v (cutS nb V size p x s).1, .int .i64 (cutS nb V size p x s).2.1]) ∧ TJ LP w0 ws wb c size (cutS nb V size p x s).2.2 w' ∧ Kp none w w' := by
  by_cases hx : x = 0
  · subst hx
    have e0 : cutS nb V size p 0 s = (0, 0, s) := by unfold cutS; rw [if_pos rfl]
    rw [e0]
    have HJ := hide h
    unfold u32v
    clear h e0
    go_enter Tryz.func28, Tryz.ntmps28
    go_wp2
    go_ret2
    exact ⟨rfl, HJ.out, Kp.refl _ _⟩
  · have q0 : ¬ (x.toNat : Int) = 0 := fun h => hx (BitVec.eq_of_toNat_eq (by simpa using h))
    have q3 : ((x.toNat : Int) == 0) = false := by rw [beq_eq_false_iff_ne]; exact q0
    obtain ⟨sT, sG, sP, D, hw, hr⟩ := CJ.blk h
    have d5 : w.cell? ⟨wb, 5, none⟩ = some (.int .i64 (size : Nat)) := hw.cell (i := 5) rfl
    by_cases hps : p * 512 < size
    · obtain ⟨st, hst⟩ : ∃ st, size - p * 512 = st := ⟨_, rfl⟩
      have e1 : (size : Int) - (p : Int) * 512 = (st : Nat) := by omega
      have hpos : (0 : Int) < (st : Int) := by omega
      by_cases hn : x.toNat < nb
      · have e0 : cutS nb V size p x s = (x, 0, { s with b := s.b + 2, P := s.P ++ [(x.toNat, splB (V x.toNat) st (List.replicate (512 - st) 0#8))] }) := by unfold cutS; rw [if_neg hx, if_pos hps, if_pos hn, hst]
        rw [e0]
        have cW := wipe_J hL h hb x hn st (by omega)
        unfold u32v at cW ⊢
        clear h e0 hw hr hx q0 hst hps
        go_enter Tryz.func28, Tryz.ntmps28
        go_wp2_with (go_at_call 44; refine cW.mono ?_; rintro e w1 ⟨rfl, h1, h2⟩; clear cW)
        go_ret2
        exact ⟨rfl, h1, h2⟩
      · have e0 : cutS nb V size p x s = (x, 22, { s with b := s.b + 1 }) := by unfold cutS; rw [if_neg hx, if_pos hps, if_neg hn]
        rw [e0]
        have cG := getbad_J hL h x (by omega)
        have HJ := hide h
        have cW : Calls Tryz.prog 44 #[.pointer (some ⟨wb, 0, none⟩), u32v x, .int .i64 (st : Nat)] w fun e w' => e = .returned (.int .i64 22) ∧ Below w.heap.size w w' := by
          unfold u32v at cG ⊢
          clear h e0 hw hr hx q0 hst hps HJ
          go_enter Tryz.func44, Tryz.ntmps44
          go_wp2_with (go_at_call 47; refine cG.mono ?_; rintro e w1 ⟨rfl, h1⟩; clear cG)
          go_ret
          exact ⟨rfl, h1⟩
        unfold u32v at cW ⊢
        clear h e0 hw hr hx q0 hst hps cG
        go_enter Tryz.func28, Tryz.ntmps28
        go_wp2_with (go_at_call 44; refine cW.mono ?_; rintro e w1 ⟨rfl, h1⟩; clear cW)
        go_ret2
        have h8 := HJ.out.foreign hL (But.of_below (S := fun _ => False) h1) (fun _ h => h.elim)
        obtain ⟨l1, l2, l3⟩ := h8.len
        exact ⟨rfl, ⟨hL.more _ _ h8.lp, h8.fr, h8.hlo, h8.lo, h8.blk, Nat.le_succ_of_le l1, Nat.le_succ_of_le l2, Nat.le_succ_of_le l3⟩, Kp.below h1⟩
    · have e0 : cutS nb V size p x s = (0, 0, { s with b := s.b + 1, G := s.G ++ [x.toNat] }) := by unfold cutS; rw [if_neg hx, if_neg hps]
      rw [e0]
      obtain ⟨u, hu⟩ : ∃ u, p * 512 - size = u := ⟨_, rfl⟩
      have e1 : (size : Int) - (p : Int) * 512 = -((u : Nat) : Int) := by omega
      have hneg : ¬ ((0 : Int) < -((u : Nat) : Int)) := by omega
      have cV := give_J hL okC h (by omega) x
      unfold u32v at cV ⊢
      clear h e0 hw hr hx q0 hu hps
      go_enter Tryz.func28, Tryz.ntmps28
      go_wp2_with (go_at_call 45; refine cV.mono ?_; rintro e w1 ⟨rfl, h1, h2⟩; clear cV)
      go_ret2
      exact ⟨rfl, h1, ct_kp okC h2⟩

/-- The hands of a cut. -/
theorem handsC (hL : LPok LP w0 c nb V) (hsz : size ≤ 65536) : Hands (wOps [] nb V) (cutS nb V size) wb 28 ws.heap.size (size / 512) 4168 (.pointer (some ⟨wb, 0, none⟩)) false (TJ LP w0 ws wb c size) (·.b) 700000 where
  cost := w_cost _ _ _
  cvis := cutS_cost nb V size
  len := w_len _ _ _
  low s w h := CJ.fr h |>.size
  tab s w w' S h hb hS := CJ.foreign h hL hb (fun j hj => by
    obtain ⟨hl, cs', t', fr', hj', ht'⟩ := hS j hj
    refine ⟨hl, cs', t', fr', hj', ?_⟩
    rcases ht' with rfl | rfl
    · unfold foreignT; decide
    · unfold foreignT; decide)
  enter := enters_of Tryz.func28 (by kernel_rfl) rfl
  take s w h hm hh := by cases hh
  get s w x h hm hx := by
    by_cases hn : x.toNat < nb
    · have e : (wOps [] nb V).get s x = (tabOf (V x.toNat), 0, { s with b := s.b + 1 }) := if_pos hn
      rw [e]
      refine (get_J hL okC h hm x hn).mono ?_
      rintro e w' ⟨g, cap, rfl, h8, h9, h10, h11⟩
      have hct : But (CT 78 w) w w' := ct_cmn h9
      obtain ⟨g2, cap2, hg2, hg3, hg4⟩ := owns_bytes h10 (by omega)
      cases hg2
      refine ⟨h8 w' (But.refl _ _), ct_kp okC hct, .inl ⟨V x.toNat, g, cap, rfl, rfl, hg4, h11, ?_, rfl⟩⟩
      rcases h10.2 with ⟨e, _⟩ | ⟨g', cap', cur', e, _, _, hcap, _⟩
      · cases e
      · cases e; exact hcap
    · have e : (wOps [] nb V).get s x = (Ino.zT, 22, { s with b := s.b + 1 }) := if_neg hn
      rw [e]
      refine (getbad_J hL h x (by omega)).mono ?_
      rintro e w' ⟨rfl, hb⟩
      obtain ⟨l1, l2, l3⟩ := CJ.len h
      have h8 := CJ.foreign h hL (But.of_below (S := fun _ => False) hb) (fun _ h => h.elim)
      exact ⟨⟨hL.more _ _ h8.lp, h8.fr, h8.hlo, h8.lo, h8.blk, Nat.le_succ_of_le l1, Nat.le_succ_of_le l2, Nat.le_succ_of_le l3⟩, ct_kp okC (ct_below hb), .inr ⟨by simp, _, rfl⟩⟩
  give s w x h hm := by
    refine (give_J hL okC h hm x).mono ?_
    rintro e w' ⟨rfl, h8, h9⟩
    exact ⟨rfl, h8, ct_kp okC h9⟩
  put s w x bs g h hm hl hg hlo := by
    refine (put_J hL okC h hm x g 512 bs (put_tag hg) hl ⟨_, _, hg⟩ hlo).mono ?_
    rintro e w' ⟨rfl, h8, h9⟩
    exact ⟨rfl, h8, ct_kp okC h9⟩
  visit s w p x h hm hp1 hp2 := cut_J hL h hm hsz p (by omega) (by omega) x

end
end Go.Proofs.YtebdgcoandfocaaGreatDoor

/-
  A walk that cuts a file, as a function. Pure: no program.
-/
namespace Go.Proofs.YtebdgcoandfocaaGreatDoor
open Go.RowKit

/-- The places of a level whose blocks are given back; those whose blocks are wiped, with what they hold then. -/
def cutL (size : Nat) (H : Ino.Gs) (a c : Nat) : List Nat := (Ino.span a c).filter fun p => H p ≠ 0 ∧ size ≤ p * 512
def wipB (V : Nat → By) (size : Nat) (H : Ino.Gs) (p : Nat) : By := splB (V (H p).toNat) (size - p * 512) (List.replicate (512 - (size - p * 512)) 0#8)
def cutQ (V : Nat → By) (size : Nat) (H : Ino.Gs) (a c : Nat) : List (Nat × By) := ((Ino.span a c).filter fun p => H p ≠ 0 ∧ size / 512 ≤ p ∧ p * 512 < size).map fun p => (p, wipB V size H p)
def cutN (size : Nat) (H : Ino.Gs) (a c : Nat) : List (BitVec 32) := (Ino.span a c).map fun p => if size ≤ p * 512 then 0 else H p
def numO (H : Ino.Gs) (p : Nat) : Nat := (H p).toNat

theorem mem_cutL {size : Nat} {H : Ino.Gs} {a c p : Nat} : p ∈ cutL size H a c ↔ (a ≤ p ∧ p < c) ∧ H p ≠ 0 ∧ size ≤ p * 512 := by
  unfold cutL; rw [List.mem_filter, Ino.mem_span, decide_eq_true_iff]
theorem mem_cutQ {V : Nat → By} {size : Nat} {H : Ino.Gs} {a c p : Nat} {d : By} : (p, d) ∈ cutQ V size H a c ↔ ((a ≤ p ∧ p < c) ∧ H p ≠ 0 ∧ size / 512 ≤ p ∧ p * 512 < size) ∧ d = wipB V size H p := by
  unfold cutQ
  rw [List.mem_map]
  constructor
  · rintro ⟨x, hx, e⟩
    cases e
    rw [List.mem_filter, Ino.mem_span, decide_eq_true_iff] at hx
    exact ⟨hx, rfl⟩
  · rintro ⟨hx, rfl⟩
    refine ⟨p, ?_, rfl⟩
    rw [List.mem_filter, Ino.mem_span, decide_eq_true_iff]
    exact hx
theorem cutL_length (size : Nat) (H : Ino.Gs) (a c : Nat) : (cutL size H a c).length ≤ c - a := by
  have := List.length_filter_le (fun p => decide (H p ≠ 0 ∧ size ≤ p * 512)) (Ino.span a c)
  rwa [Ino.span_length] at this
theorem cutQ_length (V : Nat → By) (size : Nat) (H : Ino.Gs) (a c : Nat) : (cutQ V size H a c).length ≤ c - a := by
  unfold cutQ
  rw [List.length_map]
  have := List.length_filter_le (fun p => decide (H p ≠ 0 ∧ size / 512 ≤ p ∧ p * 512 < size)) (Ino.span a c)
  rwa [Ino.span_length] at this
theorem cutQ_fst (V : Nat → By) (size : Nat) (H : Ino.Gs) (a c : Nat) : (cutQ V size H a c).map Prod.fst = (Ino.span a c).filter fun p => H p ≠ 0 ∧ size / 512 ≤ p ∧ p * 512 < size := by
  unfold cutQ; rw [List.map_map]; exact List.map_id' _
theorem cutL_nil {size : Nat} {H : Ino.Gs} {a c : Nat} (h : ∀ p, a ≤ p → p < c → H p = 0 ∨ p * 512 < size) : cutL size H a c = [] := by
  rw [List.eq_nil_iff_forall_not_mem]
  intro p hp
  obtain ⟨⟨h1, h2⟩, h3, h4⟩ := mem_cutL.1 hp
  rcases h p h1 h2 with h | h
  · exact h3 h
  · omega
theorem cutQ_nil {V : Nat → By} {size : Nat} {H : Ino.Gs} {a c : Nat} (h : ∀ p, a ≤ p → p < c → H p = 0 ∨ p < size / 512) : cutQ V size H a c = [] := by
  rw [List.eq_nil_iff_forall_not_mem]
  rintro ⟨p, d⟩ hp
  obtain ⟨⟨⟨h1, h2⟩, h3, h4, h5⟩, _⟩ := mem_cutQ.1 hp
  rcases h p h1 h2 with h | h
  · exact h3 h
  · omega

theorem cutL_cons {size : Nat} {H : Ino.Gs} {a c : Nat} (h : a < c) : cutL size H a c = (if H a ≠ 0 ∧ size ≤ a * 512 then [a] else []) ++ cutL size H (a + 1) c := by
  unfold cutL
  rw [Ino.span_cons h, List.filter_cons]
  by_cases hc : H a ≠ 0 ∧ size ≤ a * 512
  · rw [if_pos (decide_eq_true hc), if_pos hc]; rfl
  · rw [if_neg (by simpa using hc), if_neg hc]; rfl
theorem cutQ_cons {V : Nat → By} {size : Nat} {H : Ino.Gs} {a c : Nat} (h : a < c) : cutQ V size H a c = (if H a ≠ 0 ∧ size / 512 ≤ a ∧ a * 512 < size then [(a, wipB V size H a)] else []) ++ cutQ V size H (a + 1) c := by
  unfold cutQ
  rw [Ino.span_cons h, List.filter_cons]
  by_cases hc : H a ≠ 0 ∧ size / 512 ≤ a ∧ a * 512 < size
  · rw [if_pos (decide_eq_true hc), if_pos hc]; rfl
  · rw [if_neg (by simpa using hc), if_neg hc]; rfl
theorem cutN_cons {size : Nat} {H : Ino.Gs} {a c : Nat} (h : a < c) : cutN size H a c = (if size ≤ a * 512 then 0 else H a) :: cutN size H (a + 1) c := by
  unfold cutN; rw [Ino.span_cons h]; rfl

/-- A level of places that is cut. -/
theorem lev_cut (nb : Nat) (V : Nat → By) (size first : Nat) (H : Ino.Gs) : ∀ (l : List (BitVec 32)) (i : Nat) (s : WS), (∀ j n, l[j]? = some n → n = H (first + i + j)) → (∀ j, j < l.length → H (first + i + j) ≠ 0 → (H (first + i + j)).toNat < nb) → first + i + l.length ≤ 4168 →
    ∃ b', Ino.lev (cutS nb V size) (size / 512) 4168 first 1 l i s = (cutN size H (first + i) (first + i + l.length), 0, ⟨b', s.k, s.G ++ (cutL size H (first + i) (first + i + l.length)).map (numO H), s.P ++ (cutQ V size H (first + i) (first + i + l.length)).map (atG H), s.X⟩)
  | [], i, s, _, _, _ => by
    refine ⟨s.b, ?_⟩
    have e : Ino.span (first + i) (first + i + ([] : List (BitVec 32)).length) = [] := Ino.span_nil (by simp)
    unfold cutN cutL cutQ
    rw [Ino.lev_nil, e]
    simp
  | n :: l, i, s, hl, hb, hle => by
    have hlen : first + i + (n :: l).length = first + (i + 1) + l.length := by simp; omega
    rw [hlen] at hle
    have hlt : first + i < first + (i + 1) + l.length := by omega
    have hl' : ∀ j m, l[j]? = some m → m = H (first + (i + 1) + j) := by
      intro j m hm
      rw [hl (j + 1) m (by simpa using hm)]; congr 1; omega
    have hb' : ∀ j, j < l.length → H (first + (i + 1) + j) ≠ 0 → (H (first + (i + 1) + j)).toNat < nb := by
      intro j hj
      have := hb (j + 1) (by simp; omega)
      rwa [show first + i + (j + 1) = first + (i + 1) + j by omega] at this
    have hn0 : n = H (first + i) := by simpa using hl 0 n rfl
    have hpl : first + i * 1 = first + i := by omega
    rw [hlen, cutL_cons hlt, cutQ_cons hlt, cutN_cons hlt, show first + i + 1 = first + (i + 1) by omega]
    by_cases hc : first + i * 1 + 1 ≤ size / 512 ∨ 4168 ≤ first + i * 1
    · obtain ⟨b', e⟩ := lev_cut nb V size first H l (i + 1) s hl' hb' (by omega)
      refine ⟨b', ?_⟩
      rw [Ino.lev_skip hc, e, if_neg (by omega), if_neg (by omega), if_neg (by omega), hn0]
      rfl
    · by_cases hz : n = 0
      · obtain ⟨b', e⟩ := lev_cut nb V size first H l (i + 1) s hl' hb' (by omega)
        refine ⟨b', ?_⟩
        have hst : cutS nb V size (first + i * 1) n s = (0, 0, s) := by unfold cutS; rw [if_pos hz]
        have h0 : H (first + i) = 0 := hn0.symm.trans hz
        have n1 : ¬ (H (first + i) ≠ 0 ∧ size ≤ (first + i) * 512) := fun h => h.1 h0
        have n2 : ¬ (H (first + i) ≠ 0 ∧ size / 512 ≤ first + i ∧ (first + i) * 512 < size) := fun h => h.1 h0
        have n3 : (if size ≤ (first + i) * 512 then (0 : BitVec 32) else H (first + i)) = 0 := by rw [h0]; split <;> rfl
        rw [Ino.lev_step hc hst, e, n3, if_neg n1, if_neg n2]
        rfl
      · have hH : H (first + i) ≠ 0 := hn0 ▸ hz
        by_cases hs : (first + i) * 512 < size
        · have hnb : n.toNat < nb := by rw [hn0]; simpa using hb 0 (by simp) (by simpa using hH)
          have hst : cutS nb V size (first + i * 1) n s = (n, 0, { s with b := s.b + 2, P := s.P ++ [(n.toNat, wipB V size H (first + i))] }) := by
            unfold cutS wipB
            rw [if_neg hz, hpl, if_pos hs, if_pos hnb, ← hn0]
          obtain ⟨b', e⟩ := lev_cut nb V size first H l (i + 1) { s with b := s.b + 2, P := s.P ++ [(n.toNat, wipB V size H (first + i))] } hl' hb' (by omega)
          refine ⟨b', ?_⟩
          have n1 : ¬ (H (first + i) ≠ 0 ∧ size ≤ (first + i) * 512) := fun h => by omega
          have n2 : H (first + i) ≠ 0 ∧ size / 512 ≤ first + i ∧ (first + i) * 512 < size := ⟨hH, by omega, hs⟩
          have n3 : ¬ (size ≤ (first + i) * 512) := by omega
          rw [Ino.lev_step hc hst, e, if_neg n1, if_pos n2, if_neg n3, hn0]
          simp [atG]
        · have hst : cutS nb V size (first + i * 1) n s = (0, 0, { s with b := s.b + 1, G := s.G ++ [n.toNat] }) := by
            unfold cutS
            rw [if_neg hz, hpl, if_neg hs]
          obtain ⟨b', e⟩ := lev_cut nb V size first H l (i + 1) { s with b := s.b + 1, G := s.G ++ [n.toNat] } hl' hb' (by omega)
          refine ⟨b', ?_⟩
          have n1 : H (first + i) ≠ 0 ∧ size ≤ (first + i) * 512 := ⟨hH, by omega⟩
          have n2 : ¬ (H (first + i) ≠ 0 ∧ size / 512 ≤ first + i ∧ (first + i) * 512 < size) := fun h => by omega
          have n3 : size ≤ (first + i) * 512 := by omega
          rw [Ino.lev_step hc hst, e, if_pos n1, if_neg n2, if_pos n3, hn0]
          simp [numO]

theorem lev_zeros {σ : Type} {step : Ino.Stp σ} {f t first sp : Nat} (hs : ∀ p s, step p 0 s = (0, 0, s)) : ∀ (z i : Nat) (s : σ), Ino.lev step f t first sp (List.replicate z 0) i s = (List.replicate z 0, 0, s)
  | 0, i, s => rfl
  | z + 1, i, s => by
    rw [List.replicate_succ]
    by_cases hc : first + i * sp + sp ≤ f ∨ t ≤ first + i * sp
    · rw [Ino.lev_skip hc, lev_zeros hs z (i + 1) s]
    · rw [Ino.lev_step hc (hs _ s), lev_zeros hs z (i + 1) s]

/-- What becomes of the number q of a block of numbers. -/
def cutq (size : Nat) (H : Ino.Gs) (a : Nat) (x : BitVec 32) : BitVec 32 := if cutN size H a (a + 64) = Ino.zT then 0 else x

/-- A block of numbers that is cut, and numbers behind it that are none. -/
theorem thr_cut (nb : Nat) (V : Nat → By) (size a z : Nat) (H : Ino.Gs) (x : BitVec 32) (was : List (BitVec 32)) (hw : was = (Ino.span a (a + 64)).map H) (ha : a ≤ 72) (hb : ∀ p, a ≤ p → p < a + 64 → H p ≠ 0 → (H p).toNat < nb) (h0 : x = 0 → was = Ino.zT) (h1 : x ≠ 0 → (x.toNat < nb ∧ tabOf (V x.toNat) = was) ∧ was ≠ Ino.zT) (s : WS) :
    ∃ b', Ino.lev (Ino.thr1 (wOps [] nb V) false (size / 512) 4168 (cutS nb V size)) (size / 512) 4168 a 64 (x :: List.replicate z 0) 0 s = (cutq size H a x :: List.replicate z 0, 0,
      ⟨b', s.k, s.G ++ (cutL size H a (a + 64)).map (numO H) ++ (if x ≠ 0 ∧ cutq size H a x = 0 then [x.toNat] else []), s.P ++ (cutQ V size H a (a + 64)).map (atG H) ++ (if cutq size H a x ≠ 0 ∧ cutN size H a (a + 64) ≠ was then [(x.toNat, Ino.tabB (cutN size H a (a + 64)))] else []), s.X⟩) := by
  have hz1 : ∀ p s, Ino.thr1 (wOps [] nb V) false (size / 512) 4168 (cutS nb V size) p 0 s = (0, 0, s) := fun p s => Ino.thr_hole rfl rfl
  by_cases hc : a + 0 * 64 + 64 ≤ size / 512 ∨ 4168 ≤ a + 0 * 64
  · refine ⟨s.b, ?_⟩
    have hall : ∀ p, a ≤ p → p < a + 64 → p * 512 < size ∧ p < size / 512 := fun p _ _ => ⟨by omega, by omega⟩
    have hN : cutN size H a (a + 64) = was := by
      rw [hw]
      refine List.map_congr_left fun p hp => ?_
      have hp := Ino.mem_span.1 hp
      exact if_neg (by have := hall p hp.1 hp.2; omega)
    have hq : cutq size H a x = x := by
      unfold cutq
      rw [hN]
      by_cases hx : x = 0
      · rw [hx]; split <;> rfl
      · rw [if_neg (h1 hx).2]
    rw [Ino.lev_skip hc, lev_zeros hz1, hq, cutL_nil (fun p h1 h2 => .inr (hall p h1 h2).1), cutQ_nil (fun p h1 h2 => .inr (hall p h1 h2).2), if_neg (fun h => h.1 h.2), if_neg (fun h => h.2 hN)]
    simp
  · by_cases hx : x = 0
    · subst hx
      refine ⟨s.b, ?_⟩
      have hH : ∀ p, a ≤ p → p < a + 64 → H p = 0 := by
        intro p h2 h3
        have e := (hw.symm.trans (h0 rfl))
        have e2 : ((Ino.span a (a + 64)).map H)[p - a]? = some (H p) := by
          rw [List.getElem?_map]
          have : (Ino.span a (a + 64))[p - a]? = some p := by
            unfold Ino.span
            rw [List.getElem?_map, List.getElem?_range (by omega)]
            show some (a + (p - a)) = _
            congr 1; omega
          rw [this]; rfl
        rw [e, Ino.zT, List.getElem?_replicate, if_pos (by omega)] at e2
        exact (Option.some.inj e2).symm
      have hq : cutq size H a 0 = 0 := by unfold cutq; split <;> rfl
      rw [Ino.lev_step hc (hz1 _ s), lev_zeros hz1, hq, cutL_nil (fun p h1 h2 => .inl (hH p h1 h2)), cutQ_nil (fun p h1 h2 => .inl (hH p h1 h2)), if_neg (fun h => h.1 rfl), if_neg (fun h => h.1 rfl)]
      simp
    · obtain ⟨⟨hx1, hx2⟩, hx3⟩ := h1 hx
      have ho : Ino.opn (wOps [] nb V) x s = (x, was, 0, { s with b := s.b + 1 }) := by
        have eg : (wOps [] nb V).get s x = (was, 0, { s with b := s.b + 1 }) := by
          show (if x.toNat < nb then _ else _ : List (BitVec 32) × Int × WS) = _
          rw [if_pos hx1, hx2]
        unfold Ino.opn; rw [if_neg hx, eg, if_pos rfl]
      have hwl : was.length = 64 := by rw [hw, List.length_map, Ino.span_length]; omega
      obtain ⟨b', hlv⟩ := lev_cut nb V size a H was 0 { s with b := s.b + 1 } (by
        intro j n hn
        rw [hw, List.getElem?_map] at hn
        obtain ⟨q, hq, rfl⟩ := Option.map_eq_some_iff.1 hn
        unfold Ino.span at hq
        rw [List.getElem?_map] at hq
        obtain ⟨r, hr, rfl⟩ := Option.map_eq_some_iff.1 hq
        have : r = j := by
          obtain ⟨h1, h2⟩ := List.getElem?_eq_some_iff.1 hr
          simpa using h2.symm
        rw [this]; rfl) (fun j hj => hb _ (by omega) (by omega)) (by omega)
      rw [hwl, Nat.add_zero] at hlv
      have hnh : ¬ (x = 0 ∧ (false : Bool) = false) := fun h => hx h.1
      by_cases hzt : cutN size H a (a + 64) = Ino.zT
      · have hq : cutq size H a x = 0 := if_pos hzt
        refine ⟨b' + 1, ?_⟩
        have := Ino.thr_give (lv := fun l s => Ino.lev (cutS nb V size) (size / 512) 4168 a 1 l 0 s) hnh ho hlv hzt
        rw [Ino.lev_step (n' := 0) hc (by rw [show a + 0 * 64 = a by omega]; exact this), lev_zeros hz1, hq, if_pos ⟨hx, rfl⟩, if_neg (fun h => h.1 rfl)]
        simp [wOps]
      · have hq : cutq size H a x = x := if_neg hzt
        by_cases hsame : cutN size H a (a + 64) = was
        · refine ⟨b', ?_⟩
          have := Ino.thr_same (lv := fun l s => Ino.lev (cutS nb V size) (size / 512) 4168 a 1 l 0 s) hnh ho hlv hzt hsame
          rw [Ino.lev_step hc (by rw [show a + 0 * 64 = a by omega]; exact this), lev_zeros hz1, hq, if_neg (fun h => h.1 h.2), if_neg (fun h => h.2 hsame)]
          simp
        · refine ⟨b' + 1, ?_⟩
          have := Ino.thr_put (lv := fun l s => Ino.lev (cutS nb V size) (size / 512) 4168 a 1 l 0 s) hnh ho hlv hzt hsame
          rw [Ino.lev_step hc (by rw [show a + 0 * 64 = a by omega]; exact this), lev_zeros hz1, hq, if_neg (fun h => h.1 h.2), if_pos ⟨hx, hsame⟩]
          simp [wOps]

end Go.Proofs.YtebdgcoandfocaaGreatDoor

/-
  What a cut leaves of a file. Pure: no program.
-/
namespace Go.Proofs.YtebdgcoandfocaaGreatDoor
open Go.RowKit

/-- The numbers of places alone. -/
def plc (G : Ino.Gs) : Ino.Gs := fun p => if p < 128 then G p else 0
theorem plc_in {G : Ino.Gs} {p : Nat} (h : p < 128) : plc G p = G p := if_pos h
theorem plc_ne {G : Ino.Gs} {p : Nat} (h : plc G p ≠ 0) : p < 128 ∧ plc G p = G p := by
  unfold plc at *
  split at h
  · rename_i h1; exact ⟨h1, if_pos h1⟩
  · exact absurd rfl h

def cutIs (size : Nat) (G : Ino.Gs) : List Nat := cutL size (plc G) 0 8 ++ cutL size (plc G) 8 72 ++ (if G 128 ≠ 0 ∧ Ino.cutG size G 128 = 0 then [128] else []) ++ cutL size (plc G) 72 136 ++ (if G 130 ≠ 0 ∧ Ino.cutG size G 130 = 0 then [130] else []) ++ (if G 129 ≠ 0 ∧ Ino.cutG size G 129 = 0 then [129] else [])
def cutPs (V : Nat → By) (size : Nat) (G : Ino.Gs) : List (Nat × By) := cutQ V size (plc G) 0 8 ++ cutQ V size (plc G) 8 72 ++ (if Ino.cutG size G 128 ≠ 0 ∧ Ino.tab1 (Ino.cutG size G) ≠ Ino.tab1 G then [(128, Ino.tabB (Ino.tab1 (Ino.cutG size G)))] else []) ++ cutQ V size (plc G) 72 136 ++ (if Ino.cutG size G 130 ≠ 0 ∧ Ino.tab2 (Ino.cutG size G) ≠ Ino.tab2 G then [(130, Ino.tabB (Ino.tab2 (Ino.cutG size G)))] else [])

theorem cutL_num (size : Nat) (G : Ino.Gs) (a c : Nat) : (cutL size (plc G) a c).map (numO (plc G)) = (cutL size (plc G) a c).map (numO G) := by
  refine List.map_congr_left fun p hp => ?_
  unfold numO
  rw [(plc_ne (mem_cutL.1 hp).2.1).2]
theorem cutQ_num (V : Nat → By) (size : Nat) (G : Ino.Gs) (a c : Nat) : (cutQ V size (plc G) a c).map (atG (plc G)) = (cutQ V size (plc G) a c).map (atG G) := by
  refine List.map_congr_left ?_
  rintro ⟨p, d⟩ hp
  unfold atG
  rw [(plc_ne (mem_cutQ.1 hp).1.2.1).2]

theorem tab1_span (G : Ino.Gs) : Ino.tab1 G = (Ino.span 8 (8 + 64)).map (plc G) := by
  unfold Ino.tab1 Ino.span
  rw [List.map_map]
  refine List.map_congr_left fun i hi => ?_
  have := List.mem_range.1 hi
  exact (plc_in (by omega)).symm
theorem tab2_span (G : Ino.Gs) : Ino.tab2 G = (Ino.span 72 (72 + 64)).map (plc G) := by
  unfold Ino.tab2 Ino.span
  rw [List.map_map]
  refine List.map_congr_left fun i hi => ?_
  have := List.mem_range.1 hi
  show (if i < 56 then G (72 + i) else 0#32) = plc G (72 + i)
  unfold plc
  by_cases h : i < 56
  · rw [if_pos h, if_pos (by omega)]
  · rw [if_neg h, if_neg (by omega)]; rfl
theorem cutN_tab1 (size : Nat) (G : Ino.Gs) : cutN size (plc G) 8 (8 + 64) = Ino.tab1 (Ino.cutP size G) := by
  rw [tab1_span]
  refine List.map_congr_left fun p hp => ?_
  have := Ino.mem_span.1 hp
  rw [plc_in (by omega), plc_in (by omega)]
  unfold Ino.cutP
  by_cases h : size ≤ p * 512
  · rw [if_pos h, if_pos ⟨by omega, h⟩]
  · rw [if_neg h, if_neg (fun hh => h hh.2)]
theorem cutN_tab2 (size : Nat) (G : Ino.Gs) : cutN size (plc G) 72 (72 + 64) = Ino.tab2 (Ino.cutP size G) := by
  rw [tab2_span]
  refine List.map_congr_left fun p hp => ?_
  have := Ino.mem_span.1 hp
  unfold plc Ino.cutP
  by_cases h8 : p < 128
  · rw [if_pos h8, if_pos h8]
    by_cases h : size ≤ p * 512
    · rw [if_pos h, if_pos ⟨h8, h⟩]
    · rw [if_neg h, if_neg (fun hh => h hh.2)]
  · rw [if_neg h8, if_neg h8]; split <;> rfl
theorem cutG_tab1 (size : Nat) (G : Ino.Gs) : Ino.tab1 (Ino.cutG size G) = Ino.tab1 (Ino.cutP size G) := Ino.tab1_eq.2 fun p _ h2 => Ino.cutG_place (by omega)
theorem cutG_tab2 (size : Nat) (G : Ino.Gs) : Ino.tab2 (Ino.cutG size G) = Ino.tab2 (Ino.cutP size G) := Ino.tab2_eq.2 fun p _ h2 => Ino.cutG_place (by omega)
theorem cutG_128 (size : Nat) (G : Ino.Gs) : Ino.cutG size G 128 = cutq size (plc G) 8 (G 128) := by
  unfold cutq Ino.cutG
  rw [cutN_tab1]
  by_cases h : Ino.tab1 (Ino.cutP size G) = Ino.zT
  · rw [if_pos ⟨rfl, h⟩, if_pos h]
  · rw [if_neg (fun hh => h hh.2), if_neg (by omega), if_neg h]; unfold Ino.cutP; rw [if_neg (by omega)]
theorem cutG_tw (size : Nat) (G : Ino.Gs) {i : Nat} (hi : i = 129 ∨ i = 130) : Ino.cutG size G i = if Ino.tab2 (Ino.cutP size G) = Ino.zT then 0 else G i := by
  unfold Ino.cutG
  rw [if_neg (by omega)]
  by_cases h : Ino.tab2 (Ino.cutP size G) = Ino.zT
  · rw [if_pos ⟨hi, h⟩, if_pos h]
  · rw [if_neg (fun hh => h hh.2), if_neg h]; unfold Ino.cutP; rw [if_neg (by omega)]
theorem cutG_130 (size : Nat) (G : Ino.Gs) : Ino.cutG size G 130 = cutq size (plc G) 72 (G 130) := by
  rw [cutG_tw size G (.inr rfl)]
  unfold cutq
  rw [cutN_tab2]

set_option maxRecDepth 8000 in
set_option maxHeartbeats 1000000 in
theorem ovr_cut {n : Nat} {U : Nat → Bool} {V : Nat → By} {G : Ino.Gs} {sz : Nat} {W : Nat → BitVec 8} (hF : Ino.File n U V G sz W) (size : Nat) (hsz : size ≤ 65536) (s : WS) :
    ∃ b', Ino.ovr (wOps [] n V) false (size / 512) 4168 (cutS n V size) (nums G) s = (nums (Ino.cutG size G), 0, ⟨b', s.k, s.G ++ (cutIs size G).map (numO G), s.P ++ (cutPs V size G).map (atG G), s.X⟩) := by
  have hok := File.tabOk hF
  have n8 : (nums G).take 8 = (List.range 8).map G := by unfold nums; rw [List.take_left' (by simp)]
  have n9 : ((nums G).drop 8).take 1 = [G 128] := by unfold nums; rw [List.drop_left' (by simp)]; rfl
  have n10 : (nums G).drop 9 = [G 129] := by unfold nums; rfl
  have hlt : ∀ p, plc G p ≠ 0 → (plc G p).toNat < n := fun p h => by
    have e := (plc_ne h).2
    rw [e] at h ⊢; exact hF.lt p h
  have hz1 : G 128 ≠ 0 → Ino.tab1 G ≠ Ino.zT := fun h e => by
    obtain ⟨p, p1, p2, p3⟩ := hF.one.1 h
    exact p3 (Ino.tab1_zero.1 e p p1 p2)
  have hz2 : G 130 ≠ 0 → Ino.tab2 G ≠ Ino.zT := fun h e => by
    obtain ⟨p, p1, p2, p3⟩ := hF.two.1 h
    exact p3 (Ino.tab2_zero.1 e p p1 p2)
  obtain ⟨b1, e1⟩ := lev_cut n V size 0 (plc G) ((List.range 8).map G) 0 s (by
    intro j m hm
    rw [List.getElem?_map] at hm
    obtain ⟨q, hq, rfl⟩ := Option.map_eq_some_iff.1 hm
    have h2 : q = j ∧ j < 8 := by
      obtain ⟨h1, h2⟩ := List.getElem?_eq_some_iff.1 hq
      simp at h1 h2
      exact ⟨h2.symm, h1⟩
    rw [h2.1, plc_in (by omega)]; simp) (fun j _ => hlt _) (by simp)
  simp only [List.length_map, List.length_range, Nat.zero_add] at e1
  have hl1 : cutN size (plc G) 0 8 = (List.range 8).map (Ino.cutG size G) := by
    unfold cutN
    rw [show Ino.span 0 8 = List.range 8 by decide]
    refine List.map_congr_left fun p hp => ?_
    have := List.mem_range.1 hp
    rw [plc_in (by omega), Ino.cutG_place (by omega)]
    unfold Ino.cutP
    by_cases h : size ≤ p * 512
    · rw [if_pos h, if_pos ⟨by omega, h⟩]
    · rw [if_neg h, if_neg (fun hh => h hh.2)]
  rw [hl1, cutL_num, cutQ_num] at e1
  obtain ⟨s1, hs1⟩ : ∃ s1 : WS, s1 = ⟨b1, s.k, s.G ++ (cutL size (plc G) 0 8).map (numO G), s.P ++ (cutQ V size (plc G) 0 8).map (atG G), s.X⟩ := ⟨_, rfl⟩
  rw [← hs1] at e1
  obtain ⟨b2, e2⟩ := thr_cut n V size 8 0 (plc G) (G 128) (Ino.tab1 G) (tab1_span G) (by omega) (fun p _ _ => hlt p) hok.o0 (fun h => ⟨hok.o1 h, hz1 h⟩) s1
  rw [← cutG_128, cutN_tab1, cutL_num, cutQ_num, ← cutG_tab1] at e2
  obtain ⟨s2, hs2⟩ : ∃ s2 : WS, s2 = ⟨b2, s1.k, s1.G ++ (cutL size (plc G) 8 (8 + 64)).map (numO G) ++ (if G 128 ≠ 0 ∧ Ino.cutG size G 128 = 0 then [(G 128).toNat] else []), s1.P ++ (cutQ V size (plc G) 8 (8 + 64)).map (atG G) ++ (if Ino.cutG size G 128 ≠ 0 ∧ Ino.tab1 (Ino.cutG size G) ≠ Ino.tab1 G then [((G 128).toNat, Ino.tabB (Ino.tab1 (Ino.cutG size G)))] else []), s1.X⟩ := ⟨_, rfl⟩
  rw [← hs2] at e2
  have hzz : ∀ b, (⟨b, s2.k, s2.G, s2.P, s2.X⟩ : WS) = { s2 with b := b } := fun _ => rfl
  obtain ⟨b3, e3⟩ : ∃ b3, Ino.lev (Ino.thr2 (wOps [] n V) false (size / 512) 4168 (cutS n V size)) (size / 512) 4168 72 4096 [G 129] 0 s2 = ([Ino.cutG size G 129], 0,
      ⟨b3, s2.k, s2.G ++ (cutL size (plc G) 72 (72 + 64)).map (numO G) ++ (if G 130 ≠ 0 ∧ Ino.cutG size G 130 = 0 then [(G 130).toNat] else []) ++ (if G 129 ≠ 0 ∧ Ino.cutG size G 129 = 0 then [(G 129).toNat] else []), s2.P ++ (cutQ V size (plc G) 72 (72 + 64)).map (atG G) ++ (if Ino.cutG size G 130 ≠ 0 ∧ Ino.tab2 (Ino.cutG size G) ≠ Ino.tab2 G then [((G 130).toNat, Ino.tabB (Ino.tab2 (Ino.cutG size G)))] else []), s2.X⟩) := by
    have hc : ¬ (72 + 0 * 4096 + 4096 ≤ size / 512 ∨ 4168 ≤ 72 + 0 * 4096) := by omega
    by_cases hz : G 129 = 0
    · have hz30 : G 130 = 0 := Classical.byContradiction fun hn => hF.dbl.2 hn hz
      have hall : ∀ p, 72 ≤ p → p < 72 + 64 → plc G p = 0 := by
        intro p h1 h2
        unfold plc
        split
        · exact Ino.tab2_zero.1 (hok.t0 hz30) p h1 (by assumption)
        · rfl
      refine ⟨s2.b, ?_⟩
      have hc0 : Ino.cutG size G 129 = 0 := by rw [cutG_tw size G (.inl rfl), hz]; split <;> rfl
      have hc30 : Ino.cutG size G 130 = 0 := by rw [cutG_tw size G (.inr rfl), hz30]; split <;> rfl
      rw [Ino.lev_step (n' := 0) (s' := s2) hc (by rw [hz]; exact Ino.thr_hole rfl rfl), Ino.lev_nil, hc0, cutL_nil (fun p h1 h2 => .inl (hall p h1 h2)), cutQ_nil (fun p h1 h2 => .inl (hall p h1 h2)), if_neg (fun h => h.1 hz30), if_neg (fun h => h.1 hz), if_neg (fun h => h.1 hc30)]
      simp
    · obtain ⟨h2, h3⟩ := hok.d1 hz
      have hg130 : G 130 ≠ 0 := hF.dbl.1 hz
      have ho : Ino.opn (wOps [] n V) (G 129) s2 = (G 129, Ino.tabd G, 0, { s2 with b := s2.b + 1 }) := by
        have eg : (wOps [] n V).get s2 (G 129) = (Ino.tabd G, 0, { s2 with b := s2.b + 1 }) := by
          show (if (G 129).toNat < n then _ else _ : List (BitVec 32) × Int × WS) = _
          rw [if_pos h2, h3]
        unfold Ino.opn; rw [if_neg hz, eg, if_pos rfl]
      obtain ⟨b3, e3⟩ := thr_cut n V size 72 63 (plc G) (G 130) (Ino.tab2 G) (tab2_span G) (by omega) (fun p _ _ => hlt p) hok.t0 (fun h => ⟨hok.t1 h, hz2 h⟩) { s2 with b := s2.b + 1 }
      rw [← cutG_130, cutN_tab2, cutL_num, cutQ_num, ← cutG_tab2] at e3
      have hnh : ¬ (G 129 = 0 ∧ (false : Bool) = false) := fun h => hz h.1
      by_cases hzt : Ino.tab2 (Ino.cutP size G) = Ino.zT
      · have hc30 : Ino.cutG size G 130 = 0 := by rw [cutG_tw size G (.inr rfl), if_pos hzt]
        have hc29 : Ino.cutG size G 129 = 0 := by rw [cutG_tw size G (.inl rfl), if_pos hzt]
        refine ⟨b3 + 1, ?_⟩
        have := Ino.thr_give (lv := fun l s => Ino.lev (Ino.thr1 (wOps [] n V) false (size / 512) 4168 (cutS n V size)) (size / 512) 4168 72 64 l 0 s) (o := wOps [] n V) (holes := false) hnh ho e3 (by rw [hc30]; rfl)
        rw [Ino.lev_step (n' := 0) hc this, Ino.lev_nil, hc29, if_pos (⟨hz, rfl⟩ : G 129 ≠ 0 ∧ (0 : BitVec 32) = 0)]
        simp [wOps]
      · have hc30 : Ino.cutG size G 130 = G 130 := by rw [cutG_tw size G (.inr rfl), if_neg hzt]
        have hc29 : Ino.cutG size G 129 = G 129 := by rw [cutG_tw size G (.inl rfl), if_neg hzt]
        refine ⟨b3, ?_⟩
        have hnz : Ino.cutG size G 130 :: List.replicate 63 0#32 ≠ Ino.zT := fun e => by
          have e2 := congrArg (fun l => l[0]?) e
          rw [hc30] at e2
          exact hg130 (by simpa [Ino.zT] using e2)
        have := Ino.thr_same (lv := fun l s => Ino.lev (Ino.thr1 (wOps [] n V) false (size / 512) 4168 (cutS n V size)) (size / 512) 4168 72 64 l 0 s) (o := wOps [] n V) (holes := false) hnh ho e3 hnz (by rw [hc30]; rfl)
        rw [Ino.lev_step (n' := G 129) hc this, Ino.lev_nil, hc29, if_neg (fun h => h.1 h.2 : ¬ (G 129 ≠ 0 ∧ G 129 = 0))]
        simp
  refine ⟨b3, ?_⟩
  unfold Ino.ovr
  dsimp only
  rw [n8, e1, n9, n10]
  dsimp only
  rw [if_neg (by decide), show [G 128] = G 128 :: List.replicate 0 0 from rfl, e2]
  dsimp only
  rw [if_neg (by decide), e3]
  dsimp only
  rw [if_neg (by decide), hs2, hs1]
  have q1 : (List.range 8).map (Ino.cutG size G) ++ (Ino.cutG size G 128 :: List.replicate 0 0) ++ [Ino.cutG size G 129] = nums (Ino.cutG size G) := by
    unfold nums
    rw [List.append_assoc]; rfl
  have q2 : ∀ (c : Prop) [Decidable c] (i : Nat), (if c then [(G i).toNat] else []) = (if c then [i] else []).map (numO G) := fun c _ i => by split <;> rfl
  have q3 : ∀ (c : Prop) [Decidable c] (i : Nat) (d : By), (if c then [((G i).toNat, d)] else []) = (if c then [(i, d)] else []).map (atG G) := fun c _ i d => by split <;> rfl
  rw [q1]
  dsimp only
  rw [q2, q2, q2, q3, q3]
  unfold cutIs cutPs
  simp only [List.map_append, List.append_assoc]

end Go.Proofs.YtebdgcoandfocaaGreatDoor

/-
  What a cut leaves of a file: all of it. Pure: no program.
-/
namespace Go.Proofs.YtebdgcoandfocaaGreatDoor
open Go.RowKit

theorem cutG_p {size : Nat} {G : Ino.Gs} {p : Nat} (h : p < 128) : Ino.cutG size G p = if size ≤ p * 512 then 0 else G p := by
  rw [Ino.cutG_place h]
  unfold Ino.cutP
  by_cases hs : size ≤ p * 512
  · rw [if_pos ⟨h, hs⟩, if_pos hs]
  · rw [if_neg (fun hh => hs hh.2), if_neg hs]

theorem mem_if {c : Prop} [Decidable c] {α : Type} {x y : α} : x ∈ (if c then [y] else []) ↔ c ∧ x = y := by
  split
  · rename_i h; simp [h]
  · rename_i h; simp [h]

theorem mem_cutIs {size : Nat} {G : Ino.Gs} {i : Nat} : i ∈ cutIs size G ↔ G i ≠ 0 ∧ Ino.cutG size G i = 0 ∧ i < 131 := by
  have hp : ∀ a c, c ≤ 136 → (i ∈ cutL size (plc G) a c ↔ (a ≤ i ∧ i < c ∧ i < 128) ∧ G i ≠ 0 ∧ Ino.cutG size G i = 0) := by
    intro a c hc
    rw [mem_cutL]
    by_cases h : i < 128
    · rw [plc_in h, cutG_p h]
      constructor
      · rintro ⟨⟨h1, h2⟩, h3, h4⟩; exact ⟨⟨h1, h2, h⟩, h3, if_pos h4⟩
      · rintro ⟨⟨h1, h2, _⟩, h3, h4⟩
        refine ⟨⟨h1, h2⟩, h3, ?_⟩
        split at h4
        · assumption
        · exact absurd h4 h3
    · constructor
      · rintro ⟨_, h3, _⟩; exact absurd (plc_ne h3).1 h
      · rintro ⟨⟨_, _, h1⟩, _⟩; exact absurd h1 h
  unfold cutIs
  simp only [List.mem_append, mem_if, hp 0 8 (by omega), hp 8 72 (by omega), hp 72 136 (by omega)]
  constructor
  · rintro (((((⟨h1, h2, h3⟩ | ⟨h1, h2, h3⟩) | ⟨⟨h2, h3⟩, rfl⟩) | ⟨h1, h2, h3⟩) | ⟨⟨h2, h3⟩, rfl⟩) | ⟨⟨h2, h3⟩, rfl⟩)
    all_goals exact ⟨h2, h3, by omega⟩
  · rintro ⟨h1, h2, h3⟩
    by_cases h8 : i < 8
    · exact .inl (.inl (.inl (.inl (.inl ⟨by omega, h1, h2⟩))))
    by_cases h72 : i < 72
    · exact .inl (.inl (.inl (.inl (.inr ⟨by omega, h1, h2⟩))))
    by_cases h128 : i < 128
    · exact .inl (.inl (.inr ⟨by omega, h1, h2⟩))
    by_cases e1 : i = 128
    · subst e1; exact .inl (.inl (.inl (.inr ⟨⟨h1, h2⟩, rfl⟩)))
    by_cases e2 : i = 129
    · subst e2; exact .inr ⟨⟨h1, h2⟩, rfl⟩
    · obtain rfl : i = 130 := by omega
      exact .inl (.inr ⟨⟨h1, h2⟩, rfl⟩)

theorem mem_cutPs {V : Nat → By} {size : Nat} {G : Ino.Gs} {i : Nat} {d : By} : (i, d) ∈ cutPs V size G ↔ ((i < 128 ∧ G i ≠ 0 ∧ size / 512 ≤ i ∧ i * 512 < size) ∧ d = wipB V size (plc G) i) ∨ ((Ino.cutG size G 128 ≠ 0 ∧ Ino.tab1 (Ino.cutG size G) ≠ Ino.tab1 G) ∧ (i, d) = (128, Ino.tabB (Ino.tab1 (Ino.cutG size G)))) ∨ ((Ino.cutG size G 130 ≠ 0 ∧ Ino.tab2 (Ino.cutG size G) ≠ Ino.tab2 G) ∧ (i, d) = (130, Ino.tabB (Ino.tab2 (Ino.cutG size G)))) := by
  have hp : ∀ a c, c ≤ 136 → ((i, d) ∈ cutQ V size (plc G) a c ↔ ((a ≤ i ∧ i < c ∧ i < 128) ∧ G i ≠ 0 ∧ size / 512 ≤ i ∧ i * 512 < size) ∧ d = wipB V size (plc G) i) := by
    intro a c hc
    rw [mem_cutQ]
    by_cases h : i < 128
    · rw [plc_in h]
      constructor
      · rintro ⟨⟨⟨h1, h2⟩, h3⟩, h4⟩; exact ⟨⟨⟨h1, h2, h⟩, h3⟩, h4⟩
      · rintro ⟨⟨⟨h1, h2, _⟩, h3⟩, h4⟩; exact ⟨⟨⟨h1, h2⟩, h3⟩, h4⟩
    · constructor
      · rintro ⟨⟨_, h3, _⟩, _⟩; exact absurd (plc_ne h3).1 h
      · rintro ⟨⟨⟨_, _, h1⟩, _⟩, _⟩; exact absurd h1 h
  unfold cutPs
  simp only [List.mem_append, mem_if, hp 0 8 (by omega), hp 8 72 (by omega), hp 72 136 (by omega)]
  constructor
  · rintro ((((⟨⟨h1, h2⟩, h3⟩ | ⟨⟨h1, h2⟩, h3⟩) | h) | ⟨⟨h1, h2⟩, h3⟩) | h)
    · exact .inl ⟨⟨h1.2.2, h2⟩, h3⟩
    · exact .inl ⟨⟨h1.2.2, h2⟩, h3⟩
    · exact .inr (.inl h)
    · exact .inl ⟨⟨h1.2.2, h2⟩, h3⟩
    · exact .inr (.inr h)
  · rintro (⟨⟨h1, h2⟩, h3⟩ | h | h)
    · by_cases h8 : i < 8
      · exact .inl (.inl (.inl (.inl ⟨⟨by omega, h2⟩, h3⟩)))
      by_cases h72 : i < 72
      · exact .inl (.inl (.inl (.inr ⟨⟨by omega, h2⟩, h3⟩)))
      · exact .inl (.inr ⟨⟨by omega, h2⟩, h3⟩)
    · exact .inl (.inl (.inr h))
    · exact .inr h

theorem cutPs_nodup (V : Nat → By) (size : Nat) (G : Ino.Gs) : ((cutPs V size G).map Prod.fst).Nodup := by
  have hq : ∀ a c, c ≤ 136 → ∀ x ∈ (cutQ V size (plc G) a c).map Prod.fst, a ≤ x ∧ x < c ∧ x < 128 := by
    intro a c hc x hx
    obtain ⟨⟨p, d⟩, hp, rfl⟩ := List.mem_map.1 hx
    obtain ⟨⟨⟨h1, h2⟩, h3, _⟩, _⟩ := mem_cutQ.1 hp
    exact ⟨h1, h2, (plc_ne h3).1⟩
  have hn : ∀ a c, ((cutQ V size (plc G) a c).map Prod.fst).Nodup := fun a c => by rw [cutQ_fst]; exact (Ino.span_nodup a c).filter _
  have hi : ∀ (c : Prop) [Decidable c] (y : Nat × By), ((if c then [y] else []).map Prod.fst).Nodup := fun c _ y => by split <;> simp
  have hm : ∀ (c : Prop) [Decidable c] (y : Nat × By), ∀ x ∈ ((if c then [y] else []).map Prod.fst), x = y.1 := fun c _ y x hx => by
    split at hx
    · simpa using hx
    · cases hx
  unfold cutPs
  simp only [List.map_append]
  rw [List.nodup_append, List.nodup_append, List.nodup_append, List.nodup_append]
  refine ⟨⟨⟨⟨hn _ _, hn _ _, ?_⟩, hi _ _, ?_⟩, hn _ _, ?_⟩, hi _ _, ?_⟩
  · intro a ha b hb
    have := hq 0 8 (by omega) a ha; have := hq 8 72 (by omega) b hb; omega
  · intro a ha b hb
    have h2 := hm _ _ b hb
    rcases List.mem_append.1 ha with ha | ha
    · have := hq 0 8 (by omega) a ha; simp at h2; omega
    · have := hq 8 72 (by omega) a ha; simp at h2; omega
  · intro a ha b hb
    have h2 := hq 72 136 (by omega) b hb
    rcases List.mem_append.1 ha with ha | ha
    · rcases List.mem_append.1 ha with ha | ha
      · have := hq 0 8 (by omega) a ha; omega
      · have := hq 8 72 (by omega) a ha; omega
    · have h1 := hm _ _ a ha; simp at h1; omega
  · intro a ha b hb
    have h2 := hm _ _ b hb
    simp at h2
    rcases List.mem_append.1 ha with ha | ha
    · rcases List.mem_append.1 ha with ha | ha
      · rcases List.mem_append.1 ha with ha | ha
        · have := hq 0 8 (by omega) a ha; omega
        · have := hq 8 72 (by omega) a ha; omega
      · have h1 := hm _ _ a ha; simp at h1; omega
    · have := hq 72 136 (by omega) a ha; omega

set_option maxRecDepth 8000 in
set_option maxHeartbeats 400000 in
theorem wip_slab {W : Nat → BitVec 8} {size p : Nat} (h1 : p * 512 < size) (h2 : size < p * 512 + 512) : splB (Ino.slab W p) (size - p * 512) (List.replicate (512 - (size - p * 512)) 0#8) = Ino.slab (fun i => if i < size then W i else 0) p := by
  have hsl : (Ino.slab W p).length = 512 := by simp [Ino.slab]
  apply List.ext_getElem?
  intro j
  by_cases hj : j < 512
  · have hr : (Ino.slab (fun i => if i < size then W i else 0) p)[j]? = some (if p * 512 + j < size then W (p * 512 + j) else 0) := by simp [Ino.slab, hj]
    have hl : (Ino.slab W p)[j]? = some (W (p * 512 + j)) := by simp [Ino.slab, hj]
    rw [hr]
    unfold splB
    by_cases c1 : j < size - p * 512
    · rw [List.append_assoc, List.getElem?_append_left (by rw [List.length_take]; omega), List.getElem?_take, if_pos c1, hl, if_pos (show p * 512 + j < size by omega)]
    · rw [List.append_assoc, List.getElem?_append_right (by rw [List.length_take]; omega), List.length_take, List.getElem?_append_left (by rw [List.length_replicate]; omega), List.getElem?_replicate, if_pos (by omega), if_neg (show ¬ p * 512 + j < size by omega)]; rfl
  · rw [List.getElem?_eq_none (by rw [splB_length (by rw [List.length_replicate]; omega)]; omega), List.getElem?_eq_none (by simp [Ino.slab]; omega)]

set_option maxRecDepth 8000 in
set_option maxHeartbeats 400000 in
/-- All that a cut leaves. -/
theorem File.cutted {n : Nat} {U U' : Nat → Bool} {V : Nat → By} {G : Ino.Gs} {sz size : Nat} {W : Nat → BitVec 8} (h : Ino.File n U V G sz W) (hs : size < sz)
    (hU : ∀ x, x < n → (U' x = true ↔ U x = true ∧ x ∉ (cutIs size G).map (numO G))) :
    Ino.File n U' (Ino.putsV V ((cutPs V size G).map (atG G))) (Ino.cutG size G) size (fun i => if i < size then W i else 0) := by
  have hle := h.le
  have hz : ∀ q ∈ cutPs V size G, G q.1 ≠ 0 := by
    rintro ⟨i, d⟩ hq
    rcases mem_cutPs.1 hq with ⟨⟨_, h2, _⟩, _⟩ | ⟨⟨h2, _⟩, e⟩ | ⟨⟨h2, _⟩, e⟩
    · exact h2
    · cases e; rw [Ino.cutG_sub h2] at h2; exact h2
    · cases e; rw [Ino.cutG_sub h2] at h2; exact h2
  obtain ⟨v1, v2⟩ := puts_idx (V := V) (cutPs_nodup V size G) h.inj hz
  have hni : ∀ i, (∀ d, (i, d) ∉ cutPs V size G) → i ∉ (cutPs V size G).map Prod.fst := fun i hd hm => by
    obtain ⟨⟨a, b⟩, ha, e⟩ := List.mem_map.1 hm
    cases e
    exact hd b ha
  refine h.cut hs ?_ ?_ ?_ ?_ ?_
  · intro x hx
    rw [hU x hx]
    refine and_congr Iff.rfl (not_congr ⟨fun hm => ?_, ?_⟩)
    · obtain ⟨i, hi, e⟩ := List.mem_map.1 hm
      obtain ⟨h1, h2, _⟩ := mem_cutIs.1 hi
      exact ⟨i, h1, h2, e⟩
    · rintro ⟨i, h1, h2, e⟩
      exact List.mem_map.2 ⟨i, mem_cutIs.2 ⟨h1, h2, Nat.lt_of_not_le fun hn => h1 (h.fin i hn)⟩, e⟩
  · intro hc
    have hg : G 128 ≠ 0 := by have := hc; rw [Ino.cutG_sub hc] at this; exact this
    by_cases ht : Ino.tab1 (Ino.cutG size G) = Ino.tab1 G
    · rw [v2 128 (hni 128 fun d hm => ?_) hg, h.t1 hg, ht]
      rcases mem_cutPs.1 hm with ⟨⟨h1, _⟩, _⟩ | ⟨⟨_, h2⟩, _⟩ | ⟨_, e⟩
      · omega
      · exact h2 ht
      · cases e
    · exact v1 128 _ (mem_cutPs.2 (.inr (.inl ⟨⟨hc, ht⟩, rfl⟩)))
  · intro hc
    have hg : G 129 ≠ 0 := by have := hc; rw [Ino.cutG_sub hc] at this; exact this
    have hzt : Ino.tab2 (Ino.cutP size G) ≠ Ino.zT := fun e => hc (by rw [cutG_tw size G (.inl rfl), if_pos e])
    have h30 : Ino.cutG size G 130 = G 130 := by rw [cutG_tw size G (.inr rfl), if_neg hzt]
    rw [v2 129 (hni 129 fun d hm => ?_) hg, h.td hg]
    · exact congrArg Ino.tabB (Ino.tabd_eq h30.symm)
    · rcases mem_cutPs.1 hm with ⟨⟨h1, _⟩, _⟩ | ⟨_, e⟩ | ⟨_, e⟩
      · omega
      · cases e
      · cases e
  · intro hc
    have hg : G 130 ≠ 0 := by have := hc; rw [Ino.cutG_sub hc] at this; exact this
    by_cases ht : Ino.tab2 (Ino.cutG size G) = Ino.tab2 G
    · rw [v2 130 (hni 130 fun d hm => ?_) hg, h.t2 hg, ht]
      rcases mem_cutPs.1 hm with ⟨⟨h1, _⟩, _⟩ | ⟨_, e⟩ | ⟨⟨_, h2⟩, _⟩
      · omega
      · cases e
      · exact h2 ht
    · exact v1 130 _ (mem_cutPs.2 (.inr (.inr ⟨⟨hc, ht⟩, rfl⟩)))
  · intro p hp hc
    have hg : G p ≠ 0 := by have := hc; rw [Ino.cutG_sub hc] at this; exact this
    have hps : p * 512 < size := Nat.lt_of_not_le fun hn => hc (by rw [cutG_p hp, if_pos hn])
    have hd := h.data p hp
    rw [Ino.cont, if_neg hg] at hd
    by_cases hf : size / 512 ≤ p
    · rw [v1 p _ (mem_cutPs.2 (.inl ⟨⟨hp, hg, hf, hps⟩, rfl⟩))]
      unfold wipB
      rw [plc_in hp, hd, wip_slab hps (by omega)]
    · rw [v2 p (hni p fun d hm => ?_) hg, hd]
      · unfold Ino.slab
        refine List.map_congr_left fun j hj => ?_
        have := List.mem_range.1 hj
        show W (p * 512 + j) = if p * 512 + j < size then W (p * 512 + j) else 0
        rw [if_pos (show p * 512 + j < size by omega)]
      · rcases mem_cutPs.1 hm with ⟨⟨_, _, h1, _⟩, _⟩ | ⟨_, e⟩ | ⟨_, e⟩
        · exact hf h1
        · cases e; omega
        · cases e; omega

theorem cutPs_lt {n : Nat} {U : Nat → Bool} {V : Nat → By} {G : Ino.Gs} {sz size : Nat} {W : Nat → BitVec 8} (h : Ino.File n U V G sz W) : ∀ q ∈ (cutPs V size G).map (atG G), q.1 < n := by
  intro q hq
  obtain ⟨⟨i, d⟩, ha, rfl⟩ := List.mem_map.1 hq
  refine h.lt i ?_
  rcases mem_cutPs.1 ha with ⟨⟨_, h2, _⟩, _⟩ | ⟨⟨h2, _⟩, e⟩ | ⟨⟨h2, _⟩, e⟩
  · exact h2
  · cases e; rw [Ino.cutG_sub h2] at h2; exact h2
  · cases e; rw [Ino.cutG_sub h2] at h2; exact h2
theorem cutIs_lt {n : Nat} {U : Nat → Bool} {V : Nat → By} {G : Ino.Gs} {sz size : Nat} {W : Nat → BitVec 8} (h : Ino.File n U V G sz W) : ∀ i ∈ (cutIs size G).map (numO G), i < n := by
  intro x hx
  obtain ⟨i, ha, rfl⟩ := List.mem_map.1 hx
  exact h.lt i (mem_cutIs.1 ha).1
theorem cutPs_length (V : Nat → By) (size : Nat) (G : Ino.Gs) : ((cutPs V size G).map (atG G)).length ≤ 200 := by
  have h1 := cutQ_length V size (plc G) 0 8
  have h2 := cutQ_length V size (plc G) 8 72
  have h3 := cutQ_length V size (plc G) 72 136
  have hi : ∀ (c : Prop) [Decidable c] (y : Nat × By), (if c then [y] else []).length ≤ 1 := fun c _ y => by split <;> simp
  have h4 := hi (Ino.cutG size G 128 ≠ 0 ∧ Ino.tab1 (Ino.cutG size G) ≠ Ino.tab1 G) (128, Ino.tabB (Ino.tab1 (Ino.cutG size G)))
  have h5 := hi (Ino.cutG size G 130 ≠ 0 ∧ Ino.tab2 (Ino.cutG size G) ≠ Ino.tab2 G) (130, Ino.tabB (Ino.tab2 (Ino.cutG size G)))
  unfold cutPs
  simp only [List.length_map, List.length_append] at *
  omega
theorem cutIs_length (size : Nat) (G : Ino.Gs) : ((cutIs size G).map (numO G)).length ≤ 200 := by
  have h1 := cutL_length size (plc G) 0 8
  have h2 := cutL_length size (plc G) 8 72
  have h3 := cutL_length size (plc G) 72 136
  have hi : ∀ (c : Prop) [Decidable c] (y : Nat), (if c then [y] else []).length ≤ 1 := fun c _ y => by split <;> simp
  have h4 := hi (G 128 ≠ 0 ∧ Ino.cutG size G 128 = 0) 128
  have h5 := hi (G 130 ≠ 0 ∧ Ino.cutG size G 130 = 0) 130
  have h6 := hi (G 129 ≠ 0 ∧ Ino.cutG size G 129 = 0) 129
  unfold cutIs
  simp only [List.length_map, List.length_append] at *
  omega

/-- Numbers that are given back. -/
theorem gives_used : ∀ (T : List Nat) (m : Bm.MS), (∀ i ∈ T, i < m.n) → Bm.Fit m.n m.ws → (∀ x, x < m.n → (Bm.used (T.foldl giveM m).ws x = true ↔ Bm.used m.ws x = true ∧ x ∉ T)) ∧ (T.foldl giveM m).n = m.n
  | [], m, _, _ => ⟨fun x _ => by simp, rfl⟩
  | i :: T, m, h, hf => by
    have hi := h i List.mem_cons_self
    have hs : (giveM m i).n = m.n ∧ Bm.Fit (giveM m i).n (giveM m i).ws ∧ ∀ x, x < m.n → (Bm.used (giveM m i).ws x = true ↔ Bm.used m.ws x = true ∧ x ≠ i) := by
      unfold giveM
      split
      · rename_i hu
        refine ⟨rfl, hf.turned i, fun x _ => ?_⟩
        show Bm.used (Bm.turned m.ws i) x = true ↔ _
        rw [Bm.turned_used (by have := hf.len; omega)]
        by_cases hx : x = i
        · subst hx
          rw [if_pos rfl]
          simp [hu]
        · rw [if_neg hx]
          simp [hx]
      · rename_i hu
        refine ⟨rfl, hf, fun x _ => ⟨fun hx => ⟨hx, ?_⟩, fun hx => hx.1⟩⟩
        rintro rfl
        exact hu hx
    obtain ⟨s1, s2, s3⟩ := hs
    obtain ⟨r1, r2⟩ := gives_used T (giveM m i) (fun j hj => by rw [s1]; exact h j (List.mem_cons_of_mem _ hj)) s2
    rw [List.foldl_cons]
    refine ⟨fun x hx => ?_, r2.trans s1⟩
    rw [r1 x (by rw [s1]; exact hx), s3 x hx, List.mem_cons, not_or]
    exact ⟨fun ⟨⟨a, b⟩, c⟩ => ⟨a, b, c⟩, fun ⟨a, b, c⟩ => ⟨⟨a, b⟩, c⟩⟩

end Go.Proofs.YtebdgcoandfocaaGreatDoor

/-
  Package inode: a spot of a write is filled, over what stands there.
-/
namespace Go.Proofs.YtebdgcoandfocaaGreatDoor
open Go.RowKit Go.Maps Go.Sort Go.Shelf

section
variable {LP : Nat → World → Prop} {w0 ws : World} {wb c nb : Nat} {V : Nat → By} {U0 : Nat → Bool} {n at_ : Nat} {pb : Option Addr} {bl bc bg bo : Nat}

set_option maxRecDepth 8000 in
set_option maxHeartbeats 4000000 in
theorem fill_old (hL : LPok LP w0 c nb V) {s : WS} {w : World} (h : WJ LP w0 ws wb c U0 n at_ (some ⟨bg, bo, none⟩) bl bc s w) (hb : s.b + 4 ≤ 700000) (bs : By) (hbs : Bytes w (some ⟨bg, bo, none⟩) bs) (hbl : bs.length = bl) (hb1 : 1 ≤ bl) (hbc : bl ≤ bc) (htg : bg < w.heap.size ∧ ¬ Cmn w0 w bg) (hmx : at_ + bl ≤ 65536) (p : Nat) (x : BitVec 32) (hxn : x.toNat < nb) (hp1 : at_ < p * 512 + 512) (hp2 : p * 512 < at_ + bl)
    (hfr : ¬ min (at_ + bl) (p * 512 + 512) - max at_ (p * 512) = 512) :
    Calls Tryz.prog 42 #[.pointer (some ⟨wb, 0, none⟩), .agg #[.int .i64 (p : Nat), u32v x, .bool false]] w fun e w' => e = .returned (.int .i64 0) ∧ WJ LP w0 ws wb c U0 n at_ (some ⟨bg, bo, none⟩) bl bc (filS V at_ bs s (p, x, false)) w' ∧ But (CT 71 w) w w' := by
  obtain ⟨B, hB⟩ : ∃ B, p * 512 = B := ⟨_, rfl⟩
  obtain ⟨f, hf⟩ : ∃ f, max at_ B = f := ⟨_, rfl⟩
  obtain ⟨t, ht⟩ : ∃ t, min (at_ + bl) (B + 512) = t := ⟨_, rfl⟩
  have hft : f < t := by omega
  have hfo : B ≤ f ∧ at_ ≤ f ∧ t ≤ at_ + bl ∧ t ≤ B + 512 := by omega
  obtain ⟨o, ho⟩ : ∃ o, f - B = o := ⟨_, rfl⟩
  obtain ⟨so, hso⟩ : ∃ so, f - at_ = so := ⟨_, rfl⟩
  obtain ⟨eo, heo⟩ : ∃ eo, t - at_ = eo := ⟨_, rfl⟩
  have eB : (p : Int) * 512 = (B : Nat) := by omega
  have ef : max (at_ : Int) (B : Int) = (f : Nat) := by omega
  have et : min ((at_ : Int) + (bl : Int)) ((B : Int) + 512) = (t : Nat) := by omega
  have eo1 : (f : Int) - (B : Int) = (o : Nat) := by omega
  have eso : (f : Int) - (at_ : Int) = (so : Nat) := by omega
  have eeo : (t : Int) - (at_ : Int) = (eo : Nat) := by omega
  have hfs : filS V at_ bs s (p, x, false) = { s with b := s.b + 2, P := s.P ++ [(x.toNat, splB (V x.toNat) o ((bs.drop so).take (eo - so)))] } := by
    rw [hB, hf, ht] at hfr
    unfold filS fillB
    dsimp only
    rw [hbl, hB, hf, ht, ho, hso, if_neg (by simp [hfr]), if_neg (by simp [hfr]), show t - f = eo - so by omega]
  rw [hfs]
  obtain ⟨mf, sX, hc, h2, h3, h4, h5, h7⟩ := h.ex
  obtain ⟨sT, sG, sP, D, hw, hr⟩ := hc.blk
  obtain ⟨w1, hw1⟩ : ∃ w1, w1 = w.alloc (.cells #[.int .i64 (p : Nat), u32v x, .bool false] 102) := ⟨_, rfl⟩
  have hs1 : w1.heap.size = w.heap.size + 1 := by rw [hw1]; simp
  have hB1 : Below w.heap.size w w1 := by rw [hw1]; exact (Below.refl _ w).alloc (Nat.le_refl _) _
  have hx1 : BlkAt w1 w.heap.size [.int .i64 (p : Nat), u32v x, .bool false] 102 := by rw [hw1]; exact heap_alloc_new w _
  have a0 := hx1.cell (i := 0) rfl
  have a1 := hx1.cell (i := 1) rfl
  have a2 := hx1.cell (i := 2) rfl
  have hwb1 := hw.below hB1
  have b5 := hwb1.cell (i := 5) rfl
  have b6 := hwb1.cell (i := 6) rfl
  unfold u32v at a1 hw1 ⊢
  have hnl : (t : Int) - (f : Int) < 512 := by omega
  have HT5 : Hid (∀ W, Below w.heap.size w W → bg < W.heap.size ∧ ¬ Cmn w0 W bg) := fun W hW => ⟨Nat.lt_of_lt_of_le htg.1 hW.size, fun hc => htg.2 ⟨hc.1, fun cs t fr hk => hc.2 cs t fr ((hW.block bg htg.1).trans hk)⟩⟩
  have hwsz := hc.fr.size
  have HW := hide (⟨h, hbs, hw, hB1, hx1⟩ : _ ∧ _ ∧ _ ∧ _ ∧ _)
  clear htg h hc h2 h3 h4 h5 h7 hr hw hwb1 hbs hfs hB hf ht ho hso heo hfr
  obtain ⟨zs, hzs⟩ : ∃ zs, zs = List.replicate 512 (Value.int .u8 0) := ⟨_, rfl⟩
  have hmk : ∀ W : World, (Instr.makeSlice 30 (.int .i64 512) (.int .i64 512)).run Tryz.prog W = .ok (.slice (some ⟨W.heap.size, 0, none⟩) 512 512) (W.alloc (.cells zs.toArray 5)) := fun W => by rw [hzs]; exact imake W 512 (by omega)
  have HZ := hide hzs
  clear hzs
  go_enter Tryz.func42, Tryz.ntmps42
  go_wp2_with fail
  rw [← hw1]
  clear hw1
  go_quiet (fail)
  go_wp2_with fail
  generalize hw2 : (w1.drewN nq).alloc (.cells zs.toArray 5) = w2
  have hB2 : Below w1.heap.size w1 w2 := by rw [← hw2]; exact (below_drewN (Below.refl _ w1) nq).alloc (Nat.le_refl _) _
  have hB02 : Below w.heap.size w w2.drew := (HW.out.2.2.2.1.trans (hB2.mono (by omega))).drew
  clear hw2 a0 a1 a2 b5 b6
  have hx1' := HW.out.2.2.2.2.below hB2
  have a1 := hx1'.cell (i := 1) rfl
  have h2' := HW.out.1.below hL hB02
  obtain ⟨mf2, sX2, hc2, h22, h23, h24, h25, h27⟩ := h2'.ex
  have cG := get_J hL okW hc2 (by omega) x hxn
  have H2 := hide (⟨h22, h23, h24, h25, h27, h2'.xl, hx1', hB02, hB2⟩ : _ ∧ _ ∧ _ ∧ _ ∧ _ ∧ _ ∧ _ ∧ _ ∧ _)
  unfold u32v at a1 cG
  clear hx1' h2' hc2 h22 h23 h24 h25 h27 hB02 hB2 hmk HZ
  go_region_with (go_at_call 47; refine cG.mono ?_; rintro e w5 ⟨g, cap, rfl, h51, h52, h53, h54⟩)
  all_goals
    have hct : But (CT 71 w2.drew) w2.drew w5 := ct_cmn h52
    have h5 : WJ LP w0 ws wb c U0 n at_ (some ⟨bg, bo, none⟩) bl bc { s with b := s.b + 1 } w5 := WJ.step (b' := s.b + 1) hct H2.out.1 H2.out.2.1 H2.out.2.2.1 H2.out.2.2.2.1 H2.out.2.2.2.2.1 H2.out.2.2.2.2.2.1 (Nat.le_succ _) (h51 w5 (But.refl _ _))
    obtain ⟨mf3, sX3, hc5, _⟩ := h5.ex
    obtain ⟨sT5, sG5, sP5, D5, hw5, _⟩ := hc5.blk
    have b5 := hw5.cell (i := 5) rfl
    have b6 := hw5.cell (i := 6) rfl
    have hbs2 := below_bytes H2.out.2.2.2.2.2.2.2.1 HW.out.2.1
    have hbs5 : ∀ j x, bs[j]? = some x → w5.cell? ⟨bg, bo + j, none⟩ = some (u8v x) := by
      intro j x hj
      obtain ⟨s', o', e', hxx⟩ := hbs2 (by omega)
      cases e'
      have hcell := hxx j x hj
      have hty : bg < w2.drew.heap.size ∧ ¬ Cmn w0 w2.drew bg := HT5.out w2.drew H2.out.2.2.2.2.2.2.2.1
      rw [World.cell?_of_block (w := w2.drew) (h52.block bg hty.1 hty.2)]
      exact hcell
    have hcap : 512 ≤ cap := by
      rcases h53.2 with ⟨e, _⟩ | ⟨g', cap', cur', e, _, _, hcap, _⟩
      · cases e
      · cases e; exact hcap
    have hgl : w2.heap.size ≤ g := (own_type h53 rfl).1
    obtain ⟨w3, hcp, hby3, htg3, hb3⟩ := copy_fill w5.drew g cap _ bg (bo + so) o (eo - so) (bc - so) (V x.toNat) ((bs.drop so).take (eo - so)) h53 (by rw [List.length_take, List.length_drop]; omega) (fun j x hj => by
      rw [List.getElem?_take] at hj
      split at hj
      · rw [List.getElem?_drop] at hj
        show w5.cell? ⟨bg, bo + so + j, none⟩ = _
        rw [Nat.add_assoc]
        exact hbs5 _ _ hj
      · cases hj) (by omega)
    have ho5 : ¬ o = cap := by omega
    have ho5' : ¬ cap = o := by omega
    have hoc : ¬ bc = so := by omega
    have hoc' : ¬ so = bc := by omega
    have hx15 : BlkAt w5 w.heap.size _ 102 := BlkAt.cache (w := w2.drew) H2.out.2.2.2.2.2.2.1 h52 (cTag_not (by decide) (by decide) (by decide))
    have hsw : w.heap.size < w2.heap.size := by have := H2.out.2.2.2.2.2.2.2.2.size; omega
    have hx13 := BlkAt.but (w := w5.drew) hx15 hb3 (show ¬ (w.heap.size = g) by omega)
    have hgf : w5.heap.size ≤ w3.heap.size := hb3.size
    have hb5 : But (fun k => k = g) w5 w3.drew := ⟨hb3.os, hb3.tape, hb3.output, hb3.size, hb3.block⟩
    have hct3 : But (CT 71 w2.drew) w2.drew w3.drew := ⟨hb5.os.trans hct.os, hb5.tape.trans hct.tape, hb5.output.trans hct.output, Nat.le_trans hct.size hb5.size, fun k hk hn => (hb5.block k (Nat.lt_of_lt_of_le hk hct.size) (fun e => by have : k = g := e; have h7 : k < w2.heap.size := hk; omega)).trans (hct.block k hk hn)⟩
    have h3 : WJ LP w0 ws wb c U0 n at_ (some ⟨bg, bo, none⟩) bl bc { s with b := s.b + 1 } w3.drew := WJ.step (b' := s.b + 1) hct3 H2.out.1 H2.out.2.1 H2.out.2.2.1 H2.out.2.2.2.1 H2.out.2.2.2.2.1 H2.out.2.2.2.2.2.1 (Nat.le_succ _) (h51 w3.drew hb5)
    obtain ⟨mf, sX, hc3, h32, h33, h34, h35, h37⟩ := h3.ex
    have cP := put_J hL okW hc3 (by show s.b + 1 < 700000; omega) x g cap (splB (V x.toNat) o ((bs.drop so).take (eo - so))) hby3 (by rw [splB_length (by rw [List.length_take, List.length_drop]; omega)]; exact h54) htg3 (by have h7 := hwsz; omega)
    have HK3 : Hid (But (CT 71 w) w w3.drew) := ct_trans (ct_below H2.out.2.2.2.2.2.2.2.1) hct3
    have H3 := hide (⟨h32, h33, h34, h35, h37, h3.xl, hx13⟩ : _ ∧ _ ∧ _ ∧ _ ∧ _ ∧ _ ∧ _)
    unfold u32v at cP
    clear hb5 hct3 cG hby3 htg3 hb3 hx13 hx15 h5 hc5 hw5 hbs2 hbs5 h51 h52 h53 h54 hct h3 hc3 h32 h33 h34 h35 h37 a1
    go_wp2_with fail
    go_region
    have a1 := H3.out.2.2.2.2.2.2.cell (i := 1) rfl
    unfold u32v at a1
    clear hcp b5 b6
    go_wp2_with fail
    go_region_with (go_at_call 64; refine cP.mono ?_; rintro e w4 ⟨rfl, h8, h9⟩)
    all_goals
      have H4 := hide (WJ.step (LP := LP) (w0 := w0) (wb := wb) (c := c) (s := { s with b := s.b + 1 }) (at_ := at_) (pb := some ⟨bg, bo, none⟩) (bl := bl) (bc := bc) h9 H3.out.1 H3.out.2.1 H3.out.2.2.1 H3.out.2.2.2.1 H3.out.2.2.2.2.1 H3.out.2.2.2.2.2.1 (Nat.le_succ _) h8)
      have HK4 := hide (ct_trans HK3.out h9)
      clear cP h8 h9
      go_wp2
      go_ret
      exact ⟨rfl, H4.out, HK4.out⟩

/-- A spot that may be filled. -/
def SpotOk (nb at_ bl : Nat) (q : Nat × BitVec 32 × Bool) : Prop := at_ < q.1 * 512 + 512 ∧ q.1 * 512 < at_ + bl ∧ (q.2.2 = true ∨ q.2.1.toNat < nb)
theorem fill_J (hL : LPok LP w0 c nb V) {s : WS} {w : World} (h : WJ LP w0 ws wb c U0 n at_ (some ⟨bg, bo, none⟩) bl bc s w) (hb : s.b + 4 ≤ 700000) (bs : By) (hbs : Bytes w (some ⟨bg, bo, none⟩) bs) (hbl : bs.length = bl) (hb1 : 1 ≤ bl) (hbc : bl ≤ bc) (htg : bg < w.heap.size ∧ ¬ Cmn w0 w bg) (hmx : at_ + bl ≤ 65536) (q : Nat × BitVec 32 × Bool) (hq : SpotOk nb at_ bl q) :
    Calls Tryz.prog 42 #[.pointer (some ⟨wb, 0, none⟩), .agg #[.int .i64 (q.1 : Nat), u32v q.2.1, .bool q.2.2]] w fun e w' => e = .returned (.int .i64 0) ∧ WJ LP w0 ws wb c U0 n at_ (some ⟨bg, bo, none⟩) bl bc (filS V at_ bs s q) w' ∧ But (CT 71 w) w w' := by
  obtain ⟨p, x, fr⟩ := q
  obtain ⟨h1, h2, h3⟩ := hq
  by_cases hc : fr = true ∨ min (at_ + bl) (p * 512 + 512) - max at_ (p * 512) = 512
  · exact fill_new hL h hb bs hbs hbl hb1 hbc hmx p x fr h1 h2 hc
  · have hf : fr = false := by cases fr; rfl; exact absurd (.inl rfl) hc
    subst hf
    exact fill_old hL h hb bs hbs hbl hb1 hbc htg hmx p x (h3.resolve_left (by simp)) h1 h2 (fun e => hc (.inr e))
theorem filS_b (V : Nat → By) (at_ : Nat) (bs : By) (s : WS) (q : Nat × BitVec 32 × Bool) : (filS V at_ bs s q).b ≤ s.b + 2 := by
  unfold filS; dsimp only; split <;> omega

end
end Go.Proofs.YtebdgcoandfocaaGreatDoor

/-
  Package inode: a write is planned (three bytes at 700 of a file that has no block there).
-/
namespace Go.Proofs.YtebdgcoandfocaaGreatDoor
open Go.RowKit Go.Maps Go.Sort Go.Shelf

theorem walk_bel {w W : World} {x y : Bool} {o p : Obj} (h : W = if x = true then w.drew.alloc o else if y = true then w.drew.alloc p else w.drew) : Below w.heap.size w W := by
  rw [h]
  split
  · exact ((Below.refl _ w).drew).alloc (Nat.le_refl _) _
  · split
    · exact ((Below.refl _ w).drew).alloc (Nat.le_refl _) _
    · exact (Below.refl _ w).drew

end Go.Proofs.YtebdgcoandfocaaGreatDoor

/-
  Package inode: the making of a walk, for a write and for a read (printed by mkplang.py).
-/
namespace Go.Proofs.YtebdgcoandfocaaGreatDoor
open Go.RowKit Go.Maps Go.Sort Go.Shelf

def planG (wb bg bo bl bc at_ f e t s : Nat) : List (Option Tmp × Value) := [(some 10, .pointer (some ⟨wb, 0, none⟩)), (some 11, .pointer (some ⟨wb, 0, none⟩)), (some 12, .pointer (some ⟨wb, 0, none⟩)), (some 13, .pointer (some ⟨wb, 0, none⟩)), (some 14, .pointer (some ⟨wb, 0, none⟩)), (some 15, .pointer (some ⟨wb, 5, none⟩)), (some 16, .int .i64 (at_ : Nat)), (some 17, .int .i64 (f : Nat)), (some 18, .pointer (some ⟨wb, 0, none⟩)), (some 19, .pointer (some ⟨wb, 0, none⟩)), (some 20, .pointer (some ⟨wb, 5, none⟩)), (some 21, .int .i64 (at_ : Nat)), (some 22, .pointer (some ⟨wb, 0, none⟩)), (some 23, .pointer (some ⟨wb, 0, none⟩)), (some 24, .pointer (some ⟨wb, 6, none⟩)), (some 25, .slice (some ⟨bg, bo, none⟩) bl bc), (some 26, .int .i64 (bl : Nat)), (some 27, .int .i64 (e : Nat)), (some 28, .int .i64 (t : Nat)), (some 29, .pointer (some ⟨wb, 0, none⟩)), (some 30, .func (.func 41) #[.pointer (some ⟨wb, 0, none⟩)] #[]), (some 31, .agg #[.pointer (some ⟨wb, 0, none⟩), .int .i64 (f : Nat), .int .i64 (t : Nat), .bool true, .func (.func 41) #[.pointer (some ⟨wb, 0, none⟩)] #[]]), (some 5, .pointer (some ⟨s, 0, none⟩)), (none, undef)]
set_option maxRecDepth 8000 in
set_option maxHeartbeats 4000000 in
theorem plan_reg {Q : Exit → Act → World → Prop} {base : Array Value} {dd : List Deferred} {ops : Array Oper} (hops : Tryz.f26.body.bind (regI 1) = some ops) (hsz : base.size = 53) (wb bg bo bl bc at_ f e t : Nat) (w : World) (b0 : base.getD 0 undef = .pointer (some ⟨wb, 0, none⟩)) (b5 : w.cell? ⟨wb, 5, none⟩ = some (.int .i64 (at_ : Nat))) (b6 : w.cell? ⟨wb, 6, none⟩ = some (.slice (some ⟨bg, bo, none⟩) bl bc)) (hdv : Int.tdiv (at_ : Int) 512 = (f : Nat)) (hsm : (at_ : Int) + (bl : Int) = (e : Nat)) (hwr : IntKind.i64.wrap (e : Int) = (e : Int)) (hwf : IntKind.i64.wrap (f : Int) = (f : Int)) (cU : ∀ W, Calls Tryz.prog 30 #[.int .i64 (e : Nat)] W fun e w' => e = .returned (.int .i64 (t : Nat)) ∧ w' = W)
    (hQ : Q .normal ⟨putAll base (planG wb bg bo bl bc at_ f e t w.heap.size), dd⟩ (w.drew.alloc (.cells #[.pointer (some ⟨wb, 0, none⟩), .int .i64 (f : Nat), .int .i64 (t : Nat), .bool true, .func (.func 41) #[.pointer (some ⟨wb, 0, none⟩)] #[]] 81))) :
    (Code.region 1 ops true).wp Tryz.prog Q ⟨base, dd⟩ w := by
  have hmix : Tryz.prog.follows .mixedOrders = true := by kernel_rfl
  have hmf : ∀ (fn : Fn) (first cap : Array Value) (w : World), (Instr.makeFunc fn first cap).run Tryz.prog w = .ok (.func fn first cap) w := fun _ _ _ _ => rfl
  have h2 := (show Tryz.f26.body.bind (regI 1) = some _ from rfl).symm.trans hops
  obtain rfl := Option.some.inj h2
  clear h2 hops
  have vv0 : ∀ g, vals ((fun _ : Unit => planG wb bg bo bl bc at_ f e t w.heap.size) g) 0 = .pointer (some ⟨wb, 0, none⟩) := fun g => rfl
  have vv1 : ∀ g, vals ((fun _ : Unit => planG wb bg bo bl bc at_ f e t w.heap.size) g) 1 = .pointer (some ⟨wb, 0, none⟩) := fun g => rfl
  have vv2 : ∀ g, vals ((fun _ : Unit => planG wb bg bo bl bc at_ f e t w.heap.size) g) 2 = .pointer (some ⟨wb, 0, none⟩) := fun g => rfl
  have vv3 : ∀ g, vals ((fun _ : Unit => planG wb bg bo bl bc at_ f e t w.heap.size) g) 3 = .pointer (some ⟨wb, 0, none⟩) := fun g => rfl
  have vv4 : ∀ g, vals ((fun _ : Unit => planG wb bg bo bl bc at_ f e t w.heap.size) g) 4 = .pointer (some ⟨wb, 0, none⟩) := fun g => rfl
  have vv5 : ∀ g, vals ((fun _ : Unit => planG wb bg bo bl bc at_ f e t w.heap.size) g) 5 = .pointer (some ⟨wb, 5, none⟩) := fun g => rfl
  have vv6 : ∀ g, vals ((fun _ : Unit => planG wb bg bo bl bc at_ f e t w.heap.size) g) 6 = .int .i64 (at_ : Nat) := fun g => rfl
  have vv7 : ∀ g, vals ((fun _ : Unit => planG wb bg bo bl bc at_ f e t w.heap.size) g) 7 = .int .i64 (f : Nat) := fun g => rfl
  have vv8 : ∀ g, vals ((fun _ : Unit => planG wb bg bo bl bc at_ f e t w.heap.size) g) 8 = .pointer (some ⟨wb, 0, none⟩) := fun g => rfl
  have vv9 : ∀ g, vals ((fun _ : Unit => planG wb bg bo bl bc at_ f e t w.heap.size) g) 9 = .pointer (some ⟨wb, 0, none⟩) := fun g => rfl
  have vv10 : ∀ g, vals ((fun _ : Unit => planG wb bg bo bl bc at_ f e t w.heap.size) g) 10 = .pointer (some ⟨wb, 5, none⟩) := fun g => rfl
  have vv11 : ∀ g, vals ((fun _ : Unit => planG wb bg bo bl bc at_ f e t w.heap.size) g) 11 = .int .i64 (at_ : Nat) := fun g => rfl
  have vv12 : ∀ g, vals ((fun _ : Unit => planG wb bg bo bl bc at_ f e t w.heap.size) g) 12 = .pointer (some ⟨wb, 0, none⟩) := fun g => rfl
  have vv13 : ∀ g, vals ((fun _ : Unit => planG wb bg bo bl bc at_ f e t w.heap.size) g) 13 = .pointer (some ⟨wb, 0, none⟩) := fun g => rfl
  have vv14 : ∀ g, vals ((fun _ : Unit => planG wb bg bo bl bc at_ f e t w.heap.size) g) 14 = .pointer (some ⟨wb, 6, none⟩) := fun g => rfl
  have vv15 : ∀ g, vals ((fun _ : Unit => planG wb bg bo bl bc at_ f e t w.heap.size) g) 15 = .slice (some ⟨bg, bo, none⟩) bl bc := fun g => rfl
  have vv16 : ∀ g, vals ((fun _ : Unit => planG wb bg bo bl bc at_ f e t w.heap.size) g) 16 = .int .i64 (bl : Nat) := fun g => rfl
  have vv17 : ∀ g, vals ((fun _ : Unit => planG wb bg bo bl bc at_ f e t w.heap.size) g) 17 = .int .i64 (e : Nat) := fun g => rfl
  have vv18 : ∀ g, vals ((fun _ : Unit => planG wb bg bo bl bc at_ f e t w.heap.size) g) 18 = .int .i64 (t : Nat) := fun g => rfl
  have vv19 : ∀ g, vals ((fun _ : Unit => planG wb bg bo bl bc at_ f e t w.heap.size) g) 19 = .pointer (some ⟨wb, 0, none⟩) := fun g => rfl
  have vv20 : ∀ g, vals ((fun _ : Unit => planG wb bg bo bl bc at_ f e t w.heap.size) g) 20 = .func (.func 41) #[.pointer (some ⟨wb, 0, none⟩)] #[] := fun g => rfl
  have vv21 : ∀ g, vals ((fun _ : Unit => planG wb bg bo bl bc at_ f e t w.heap.size) g) 21 = .agg #[.pointer (some ⟨wb, 0, none⟩), .int .i64 (f : Nat), .int .i64 (t : Nat), .bool true, .func (.func 41) #[.pointer (some ⟨wb, 0, none⟩)] #[]] := fun g => rfl
  have vv22 : ∀ g, vals ((fun _ : Unit => planG wb bg bo bl bc at_ f e t w.heap.size) g) 22 = .pointer (some ⟨w.heap.size, 0, none⟩) := fun g => rfl
  have vv23 : ∀ g, vals ((fun _ : Unit => planG wb bg bo bl bc at_ f e t w.heap.size) g) 23 = undef := fun g => rfl
  refine region_laidg hmix (by kernel_rfl) 53 hsz (by kernel_rfl) () ((fun _ : Unit => planG wb bg bo bl bc at_ f e t w.heap.size)) (fun g => rfl) (fun (_ : Unit) b W => W = if b 23 = true then w.drew.alloc (.cells #[.pointer (some ⟨wb, 0, none⟩), .int .i64 (f : Nat), .int .i64 (t : Nat), .bool true, .func (.func 41) #[.pointer (some ⟨wb, 0, none⟩)] #[]] 81) else if b 22 = true then w.drew.alloc (.cells #[.pointer none, .int .i64 0, .int .i64 0, .bool false, .nilFunc] 81) else w.drew) rfl ?_ ?_
  · intro g b W io o a hS hcl ho hb hd ev kp yl
    match io with
    | 0 =>
      simp only [List.getElem?_toArray, List.getElem?_cons_zero, Option.some.injEq] at ho
      subst ho
      have e0 : a.tmps[0]?.getD undef = .pointer (some ⟨wb, 0, none⟩) := (kp 0 (none_till (by kernel_rfl))).trans b0
      refine doesg_value rfl (by intro c h; cases h) (v := .pointer (some ⟨wb, 0, none⟩)) (w' := W) ?_ ⟨g, fun _ _ => rfl, (vv0 g).symm, ?_⟩
      · simp [execOp, go_sem, e0]
      · simpa [did] using hS
    | 1 =>
      simp only [List.getElem?_toArray, List.getElem?_cons_zero, List.getElem?_cons_succ, Option.some.injEq] at ho
      subst ho
      have p0 : b 0 = true := hd ⟨0, .data⟩ (by simp) rfl
      have e10 := (ev 0 10 rfl p0).trans (vv0 g)
      refine doesg_value rfl (by intro c h; cases h) (v := .pointer (some ⟨wb, 0, none⟩)) (w' := W) ?_ ⟨g, fun _ _ => rfl, (vv1 g).symm, ?_⟩
      · simp [execOp, go_sem, e10]
      · simpa [did] using hS
    | 2 =>
      simp only [List.getElem?_toArray, List.getElem?_cons_zero, List.getElem?_cons_succ, Option.some.injEq] at ho
      subst ho
      have p1 : b 1 = true := hd ⟨1, .data⟩ (by simp) rfl
      have e11 := (ev 1 11 rfl p1).trans (vv1 g)
      refine doesg_value rfl (by intro c h; cases h) (v := .pointer (some ⟨wb, 0, none⟩)) (w' := W) ?_ ⟨g, fun _ _ => rfl, (vv2 g).symm, ?_⟩
      · simp [execOp, go_sem, e11]
      · simpa [did] using hS
    | 3 =>
      simp only [List.getElem?_toArray, List.getElem?_cons_zero, List.getElem?_cons_succ, Option.some.injEq] at ho
      subst ho
      have e0 : a.tmps[0]?.getD undef = .pointer (some ⟨wb, 0, none⟩) := (kp 0 (none_till (by kernel_rfl))).trans b0
      refine doesg_value rfl (by intro c h; cases h) (v := .pointer (some ⟨wb, 0, none⟩)) (w' := W) ?_ ⟨g, fun _ _ => rfl, (vv3 g).symm, ?_⟩
      · simp [execOp, go_sem, e0]
      · simpa [did] using hS
    | 4 =>
      simp only [List.getElem?_toArray, List.getElem?_cons_zero, List.getElem?_cons_succ, Option.some.injEq] at ho
      subst ho
      have p3 : b 3 = true := hd ⟨3, .data⟩ (by simp) rfl
      have e13 := (ev 3 13 rfl p3).trans (vv3 g)
      refine doesg_value rfl (by intro c h; cases h) (v := .pointer (some ⟨wb, 0, none⟩)) (w' := W) ?_ ⟨g, fun _ _ => rfl, (vv4 g).symm, ?_⟩
      · simp [execOp, go_sem, e13]
      · simpa [did] using hS
    | 5 =>
      simp only [List.getElem?_toArray, List.getElem?_cons_zero, List.getElem?_cons_succ, Option.some.injEq] at ho
      subst ho
      have p4 : b 4 = true := hd ⟨4, .data⟩ (by simp) rfl
      have e14 := (ev 4 14 rfl p4).trans (vv4 g)
      refine doesg_value rfl (by intro c h; cases h) (v := .pointer (some ⟨wb, 5, none⟩)) (w' := W) ?_ ⟨g, fun _ _ => rfl, (vv5 g).symm, ?_⟩
      · simp [execOp, go_sem, e14]
      · simpa [did] using hS
    | 6 =>
      simp only [List.getElem?_toArray, List.getElem?_cons_zero, List.getElem?_cons_succ, Option.some.injEq] at ho
      subst ho
      have p5 : b 5 = true := hd ⟨5, .data⟩ (by simp) rfl
      have e15 := (ev 5 15 rfl p5).trans (vv5 g)
      have hbel : Below w.heap.size w W := walk_bel hS
      have hl := (hbel.cell (p := ⟨wb, 5, none⟩) (cell_lt b5)).trans b5
      refine doesg_value rfl (by intro c h; cases h) (v := .int .i64 (at_ : Nat)) (w' := W) ?_ ⟨g, fun _ _ => rfl, (vv6 g).symm, ?_⟩
      · simp [execOp, go_sem, e15, hl]
      · simpa [did] using hS
    | 7 =>
      simp only [List.getElem?_toArray, List.getElem?_cons_zero, List.getElem?_cons_succ, Option.some.injEq] at ho
      subst ho
      have p6 : b 6 = true := hd ⟨6, .data⟩ (by simp) rfl
      have e16 := (ev 6 16 rfl p6).trans (vv6 g)
      refine doesg_value rfl (by intro c h; cases h) (v := .int .i64 (f : Nat)) (w' := W) ?_ ⟨g, fun _ _ => rfl, (vv7 g).symm, ?_⟩
      · simp [execOp, go_sem, e16, hdv, hwf]
      · simpa [did] using hS
    | 8 =>
      simp only [List.getElem?_toArray, List.getElem?_cons_zero, List.getElem?_cons_succ, Option.some.injEq] at ho
      subst ho
      have e0 : a.tmps[0]?.getD undef = .pointer (some ⟨wb, 0, none⟩) := (kp 0 (none_till (by kernel_rfl))).trans b0
      refine doesg_value rfl (by intro c h; cases h) (v := .pointer (some ⟨wb, 0, none⟩)) (w' := W) ?_ ⟨g, fun _ _ => rfl, (vv8 g).symm, ?_⟩
      · simp [execOp, go_sem, e0]
      · simpa [did] using hS
    | 9 =>
      simp only [List.getElem?_toArray, List.getElem?_cons_zero, List.getElem?_cons_succ, Option.some.injEq] at ho
      subst ho
      have p8 : b 8 = true := hd ⟨8, .data⟩ (by simp) rfl
      have e18 := (ev 8 18 rfl p8).trans (vv8 g)
      refine doesg_value rfl (by intro c h; cases h) (v := .pointer (some ⟨wb, 0, none⟩)) (w' := W) ?_ ⟨g, fun _ _ => rfl, (vv9 g).symm, ?_⟩
      · simp [execOp, go_sem, e18]
      · simpa [did] using hS
    | 10 =>
      simp only [List.getElem?_toArray, List.getElem?_cons_zero, List.getElem?_cons_succ, Option.some.injEq] at ho
      subst ho
      have p9 : b 9 = true := hd ⟨9, .data⟩ (by simp) rfl
      have e19 := (ev 9 19 rfl p9).trans (vv9 g)
      refine doesg_value rfl (by intro c h; cases h) (v := .pointer (some ⟨wb, 5, none⟩)) (w' := W) ?_ ⟨g, fun _ _ => rfl, (vv10 g).symm, ?_⟩
      · simp [execOp, go_sem, e19]
      · simpa [did] using hS
    | 11 =>
      simp only [List.getElem?_toArray, List.getElem?_cons_zero, List.getElem?_cons_succ, Option.some.injEq] at ho
      subst ho
      have p10 : b 10 = true := hd ⟨10, .data⟩ (by simp) rfl
      have e20 := (ev 10 20 rfl p10).trans (vv10 g)
      have hbel : Below w.heap.size w W := walk_bel hS
      have hl := (hbel.cell (p := ⟨wb, 5, none⟩) (cell_lt b5)).trans b5
      refine doesg_value rfl (by intro c h; cases h) (v := .int .i64 (at_ : Nat)) (w' := W) ?_ ⟨g, fun _ _ => rfl, (vv11 g).symm, ?_⟩
      · simp [execOp, go_sem, e20, hl]
      · simpa [did] using hS
    | 12 =>
      simp only [List.getElem?_toArray, List.getElem?_cons_zero, List.getElem?_cons_succ, Option.some.injEq] at ho
      subst ho
      have e0 : a.tmps[0]?.getD undef = .pointer (some ⟨wb, 0, none⟩) := (kp 0 (none_till (by kernel_rfl))).trans b0
      refine doesg_value rfl (by intro c h; cases h) (v := .pointer (some ⟨wb, 0, none⟩)) (w' := W) ?_ ⟨g, fun _ _ => rfl, (vv12 g).symm, ?_⟩
      · simp [execOp, go_sem, e0]
      · simpa [did] using hS
    | 13 =>
      simp only [List.getElem?_toArray, List.getElem?_cons_zero, List.getElem?_cons_succ, Option.some.injEq] at ho
      subst ho
      have p12 : b 12 = true := hd ⟨12, .data⟩ (by simp) rfl
      have e22 := (ev 12 22 rfl p12).trans (vv12 g)
      refine doesg_value rfl (by intro c h; cases h) (v := .pointer (some ⟨wb, 0, none⟩)) (w' := W) ?_ ⟨g, fun _ _ => rfl, (vv13 g).symm, ?_⟩
      · simp [execOp, go_sem, e22]
      · simpa [did] using hS
    | 14 =>
      simp only [List.getElem?_toArray, List.getElem?_cons_zero, List.getElem?_cons_succ, Option.some.injEq] at ho
      subst ho
      have p13 : b 13 = true := hd ⟨13, .data⟩ (by simp) rfl
      have e23 := (ev 13 23 rfl p13).trans (vv13 g)
      refine doesg_value rfl (by intro c h; cases h) (v := .pointer (some ⟨wb, 6, none⟩)) (w' := W) ?_ ⟨g, fun _ _ => rfl, (vv14 g).symm, ?_⟩
      · simp [execOp, go_sem, e23]
      · simpa [did] using hS
    | 15 =>
      simp only [List.getElem?_toArray, List.getElem?_cons_zero, List.getElem?_cons_succ, Option.some.injEq] at ho
      subst ho
      have p14 : b 14 = true := hd ⟨14, .data⟩ (by simp) rfl
      have e24 := (ev 14 24 rfl p14).trans (vv14 g)
      have hbel : Below w.heap.size w W := walk_bel hS
      have hl := (hbel.cell (p := ⟨wb, 6, none⟩) (cell_lt b6)).trans b6
      refine doesg_value rfl (by intro c h; cases h) (v := .slice (some ⟨bg, bo, none⟩) bl bc) (w' := W) ?_ ⟨g, fun _ _ => rfl, (vv15 g).symm, ?_⟩
      · simp [execOp, go_sem, e24, hl]
      · simpa [did] using hS
    | 16 =>
      simp only [List.getElem?_toArray, List.getElem?_cons_zero, List.getElem?_cons_succ, Option.some.injEq] at ho
      subst ho
      have p15 : b 15 = true := hd ⟨15, .data⟩ (by simp) rfl
      have e25 := (ev 15 25 rfl p15).trans (vv15 g)
      refine doesg_value rfl (by intro c h; cases h) (v := .int .i64 (bl : Nat)) (w' := W) ?_ ⟨g, fun _ _ => rfl, (vv16 g).symm, ?_⟩
      · simp [go_sem, e25]
      · simpa [did] using hS
    | 17 =>
      simp only [List.getElem?_toArray, List.getElem?_cons_zero, List.getElem?_cons_succ, Option.some.injEq] at ho
      subst ho
      have p11 : b 11 = true := hd ⟨11, .data⟩ (by simp) rfl
      have p16 : b 16 = true := hd ⟨16, .data⟩ (by simp) rfl
      have e21 := (ev 11 21 rfl p11).trans (vv11 g)
      have e26 := (ev 16 26 rfl p16).trans (vv16 g)
      refine doesg_value rfl (by intro c h; cases h) (v := .int .i64 (e : Nat)) (w' := W) ?_ ⟨g, fun _ _ => rfl, (vv17 g).symm, ?_⟩
      · simp [execOp, go_sem, e21, e26, hsm, hwr]
      · simpa [did] using hS
    | 18 =>
      simp only [List.getElem?_toArray, List.getElem?_cons_zero, List.getElem?_cons_succ, Option.some.injEq] at ho
      subst ho
      have p17 : b 17 = true := hd ⟨17, .data⟩ (by simp) rfl
      have e27 := (ev 17 27 rfl p17).trans (vv17 g)
      refine doesg_call rfl (by intro c h; cases h) (f := 30) (args := #[.int .i64 (e : Nat)]) ?_ ?_
      · simp [go_sem, e27]
      · (refine (cU W).mono ?_; rintro e w' ⟨rfl, rfl⟩; exact ⟨_, rfl, g, fun _ _ => rfl, (vv18 g).symm, by simpa [did] using hS⟩)
    | 19 =>
      simp only [List.getElem?_toArray, List.getElem?_cons_zero, List.getElem?_cons_succ, Option.some.injEq] at ho
      subst ho
      have e0 : a.tmps[0]?.getD undef = .pointer (some ⟨wb, 0, none⟩) := (kp 0 (none_till (by kernel_rfl))).trans b0
      refine doesg_value rfl (by intro c h; cases h) (v := .pointer (some ⟨wb, 0, none⟩)) (w' := W) ?_ ⟨g, fun _ _ => rfl, (vv19 g).symm, ?_⟩
      · simp [execOp, go_sem, e0]
      · simpa [did] using hS
    | 20 =>
      simp only [List.getElem?_toArray, List.getElem?_cons_zero, List.getElem?_cons_succ, Option.some.injEq] at ho
      subst ho
      have p19 : b 19 = true := hd ⟨19, .data⟩ (by simp) rfl
      have e29 := (ev 19 29 rfl p19).trans (vv19 g)
      refine doesg_value rfl (by intro c h; cases h) (v := .func (.func 41) #[.pointer (some ⟨wb, 0, none⟩)] #[]) (w' := W) ?_ ⟨g, fun _ _ => rfl, (vv20 g).symm, ?_⟩
      · simp [execOp, go_sem, e29]
      · simpa [did] using hS
    | 21 =>
      simp only [List.getElem?_toArray, List.getElem?_cons_zero, List.getElem?_cons_succ, Option.some.injEq] at ho
      subst ho
      have p2 : b 2 = true := hd ⟨2, .data⟩ (by simp) rfl
      have p7 : b 7 = true := hd ⟨7, .data⟩ (by simp) rfl
      have p18 : b 18 = true := hd ⟨18, .data⟩ (by simp) rfl
      have p20 : b 20 = true := hd ⟨20, .data⟩ (by simp) rfl
      have e12 := (ev 2 12 rfl p2).trans (vv2 g)
      have e17 := (ev 7 17 rfl p7).trans (vv7 g)
      have e28 := (ev 18 28 rfl p18).trans (vv18 g)
      have e30 := (ev 20 30 rfl p20).trans (vv20 g)
      refine doesg_value rfl (by intro c h; cases h) (v := .agg #[.pointer (some ⟨wb, 0, none⟩), .int .i64 (f : Nat), .int .i64 (t : Nat), .bool true, .func (.func 41) #[.pointer (some ⟨wb, 0, none⟩)] #[]]) (w' := W) ?_ ⟨g, fun _ _ => rfl, (vv21 g).symm, ?_⟩
      · simp [execOp, go_sem, e12, e17, e28, e30]
      · simpa [did] using hS
    | 22 =>
      simp only [List.getElem?_toArray, List.getElem?_cons_zero, List.getElem?_cons_succ, Option.some.injEq] at ho
      subst ho
      have h23 : b 23 = false := by cases h : b 23; rfl; rw [hcl 23 _ rfl h ⟨22, .data⟩ (by simp) rfl] at hb; cases hb
      have hW : W = w.drew := by rw [hS, h23, hb]; rfl
      subst hW
      refine doesg_value rfl (by intro c h; cases h) (v := .pointer (some ⟨w.heap.size, 0, none⟩)) (w' := w.drew.alloc (.cells #[.pointer none, .int .i64 0, .int .i64 0, .bool false, .nilFunc] 81)) ?_ ⟨g, fun _ _ => rfl, (vv22 g).symm, ?_⟩
      · simp [execOp, go_sem]
      · simp [did, h23]
    | 23 =>
      simp only [List.getElem?_toArray, List.getElem?_cons_zero, List.getElem?_cons_succ, Option.some.injEq] at ho
      subst ho
      have p22 : b 22 = true := hd ⟨22, .data⟩ (by simp) rfl
      have p21 : b 21 = true := hd ⟨21, .data⟩ (by simp) rfl
      have e5 := (ev 22 5 rfl p22).trans (vv22 g)
      have e31 := (ev 21 31 rfl p21).trans (vv21 g)
      have hW : W = w.drew.alloc (.cells #[.pointer none, .int .i64 0, .int .i64 0, .bool false, .nilFunc] 81) := by rw [hS, hb, p22]; rfl
      subst hW
      refine doesg_skip rfl (by intro c h; cases h) (w' := w.drew.alloc (.cells #[.pointer (some ⟨wb, 0, none⟩), .int .i64 (f : Nat), .int .i64 (t : Nat), .bool true, .func (.func 41) #[.pointer (some ⟨wb, 0, none⟩)] #[]] 81)) ?_ ⟨g, fun _ _ => rfl, (vv23 g).symm, ?_⟩
      · simp [execOp, go_sem, e5, e31]
      · exact by simp [did]
    | k + 24 => simp at ho
  · intro g b W hS hall
    rw [hall 23 (by decide), if_pos rfl] at hS
    rw [hS]
    exact hQ

def readG (wb bl at_ f e t s : Nat) : List (Option Tmp × Value) := [(some 41, .pointer (some ⟨wb, 0, none⟩)), (some 42, .pointer (some ⟨wb, 0, none⟩)), (some 43, .pointer (some ⟨wb, 0, none⟩)), (some 44, .int .i64 (at_ : Nat)), (some 45, .int .i64 (f : Nat)), (some 46, .int .i64 (at_ : Nat)), (some 47, .int .i64 (bl : Nat)), (some 48, .int .i64 (e : Nat)), (some 49, .int .i64 (t : Nat)), (some 50, .pointer (some ⟨wb, 0, none⟩)), (some 51, .func (.func 31) #[.pointer (some ⟨wb, 0, none⟩)] #[]), (some 52, .agg #[.pointer (some ⟨wb, 0, none⟩), .int .i64 (f : Nat), .int .i64 (t : Nat), .bool false, .func (.func 31) #[.pointer (some ⟨wb, 0, none⟩)] #[]]), (some 11, .pointer (some ⟨s, 0, none⟩)), (none, undef)]
set_option maxRecDepth 8000 in
set_option maxHeartbeats 4000000 in
theorem read_reg {Q : Exit → Act → World → Prop} {base : Array Value} {dd : List Deferred} {ops : Array Oper} (hops : Tryz.f14.body.bind (regI 7) = some ops) (hsz : base.size = 65) (wb bl at_ f e t : Nat) (w : World) (b10 : base.getD 10 undef = .pointer (some ⟨wb, 0, none⟩)) (b2 : base.getD 2 undef = .int .i64 (at_ : Nat)) (b3 : base.getD 3 undef = .int .i64 (bl : Nat)) (hdv : Int.tdiv (at_ : Int) 512 = (f : Nat)) (hsm : (at_ : Int) + (bl : Int) = (e : Nat)) (hwr : IntKind.i64.wrap (e : Int) = (e : Int)) (hwf : IntKind.i64.wrap (f : Int) = (f : Int)) (cU : ∀ W, Calls Tryz.prog 30 #[.int .i64 (e : Nat)] W fun e w' => e = .returned (.int .i64 (t : Nat)) ∧ w' = W)
    (hQ : Q .normal ⟨putAll base (readG wb bl at_ f e t w.heap.size), dd⟩ (w.drew.alloc (.cells #[.pointer (some ⟨wb, 0, none⟩), .int .i64 (f : Nat), .int .i64 (t : Nat), .bool false, .func (.func 31) #[.pointer (some ⟨wb, 0, none⟩)] #[]] 81))) :
    (Code.region 7 ops true).wp Tryz.prog Q ⟨base, dd⟩ w := by
  have hmix : Tryz.prog.follows .mixedOrders = true := by kernel_rfl
  have hmf : ∀ (fn : Fn) (first cap : Array Value) (w : World), (Instr.makeFunc fn first cap).run Tryz.prog w = .ok (.func fn first cap) w := fun _ _ _ _ => rfl
  have h2 := (show Tryz.f14.body.bind (regI 7) = some _ from rfl).symm.trans hops
  obtain rfl := Option.some.inj h2
  clear h2 hops
  have vv0 : ∀ g, vals ((fun _ : Unit => readG wb bl at_ f e t w.heap.size) g) 0 = .pointer (some ⟨wb, 0, none⟩) := fun g => rfl
  have vv1 : ∀ g, vals ((fun _ : Unit => readG wb bl at_ f e t w.heap.size) g) 1 = .pointer (some ⟨wb, 0, none⟩) := fun g => rfl
  have vv2 : ∀ g, vals ((fun _ : Unit => readG wb bl at_ f e t w.heap.size) g) 2 = .pointer (some ⟨wb, 0, none⟩) := fun g => rfl
  have vv3 : ∀ g, vals ((fun _ : Unit => readG wb bl at_ f e t w.heap.size) g) 3 = .int .i64 (at_ : Nat) := fun g => rfl
  have vv4 : ∀ g, vals ((fun _ : Unit => readG wb bl at_ f e t w.heap.size) g) 4 = .int .i64 (f : Nat) := fun g => rfl
  have vv5 : ∀ g, vals ((fun _ : Unit => readG wb bl at_ f e t w.heap.size) g) 5 = .int .i64 (at_ : Nat) := fun g => rfl
  have vv6 : ∀ g, vals ((fun _ : Unit => readG wb bl at_ f e t w.heap.size) g) 6 = .int .i64 (bl : Nat) := fun g => rfl
  have vv7 : ∀ g, vals ((fun _ : Unit => readG wb bl at_ f e t w.heap.size) g) 7 = .int .i64 (e : Nat) := fun g => rfl
  have vv8 : ∀ g, vals ((fun _ : Unit => readG wb bl at_ f e t w.heap.size) g) 8 = .int .i64 (t : Nat) := fun g => rfl
  have vv9 : ∀ g, vals ((fun _ : Unit => readG wb bl at_ f e t w.heap.size) g) 9 = .pointer (some ⟨wb, 0, none⟩) := fun g => rfl
  have vv10 : ∀ g, vals ((fun _ : Unit => readG wb bl at_ f e t w.heap.size) g) 10 = .func (.func 31) #[.pointer (some ⟨wb, 0, none⟩)] #[] := fun g => rfl
  have vv11 : ∀ g, vals ((fun _ : Unit => readG wb bl at_ f e t w.heap.size) g) 11 = .agg #[.pointer (some ⟨wb, 0, none⟩), .int .i64 (f : Nat), .int .i64 (t : Nat), .bool false, .func (.func 31) #[.pointer (some ⟨wb, 0, none⟩)] #[]] := fun g => rfl
  have vv12 : ∀ g, vals ((fun _ : Unit => readG wb bl at_ f e t w.heap.size) g) 12 = .pointer (some ⟨w.heap.size, 0, none⟩) := fun g => rfl
  have vv13 : ∀ g, vals ((fun _ : Unit => readG wb bl at_ f e t w.heap.size) g) 13 = undef := fun g => rfl
  refine region_laidg hmix (by kernel_rfl) 65 hsz (by kernel_rfl) () ((fun _ : Unit => readG wb bl at_ f e t w.heap.size)) (fun g => rfl) (fun (_ : Unit) b W => W = if b 13 = true then w.drew.alloc (.cells #[.pointer (some ⟨wb, 0, none⟩), .int .i64 (f : Nat), .int .i64 (t : Nat), .bool false, .func (.func 31) #[.pointer (some ⟨wb, 0, none⟩)] #[]] 81) else if b 12 = true then w.drew.alloc (.cells #[.pointer none, .int .i64 0, .int .i64 0, .bool false, .nilFunc] 81) else w.drew) rfl ?_ ?_
  · intro g b W io o a hS hcl ho hb hd ev kp yl
    match io with
    | 0 =>
      simp only [List.getElem?_toArray, List.getElem?_cons_zero, Option.some.injEq] at ho
      subst ho
      have e10 : a.tmps[10]?.getD undef = .pointer (some ⟨wb, 0, none⟩) := (kp 10 (none_till (by kernel_rfl))).trans b10
      refine doesg_value rfl (by intro c h; cases h) (v := .pointer (some ⟨wb, 0, none⟩)) (w' := W) ?_ ⟨g, fun _ _ => rfl, (vv0 g).symm, ?_⟩
      · simp [execOp, go_sem, e10]
      · simpa [did] using hS
    | 1 =>
      simp only [List.getElem?_toArray, List.getElem?_cons_zero, List.getElem?_cons_succ, Option.some.injEq] at ho
      subst ho
      have p0 : b 0 = true := hd ⟨0, .data⟩ (by simp) rfl
      have e41 := (ev 0 41 rfl p0).trans (vv0 g)
      refine doesg_value rfl (by intro c h; cases h) (v := .pointer (some ⟨wb, 0, none⟩)) (w' := W) ?_ ⟨g, fun _ _ => rfl, (vv1 g).symm, ?_⟩
      · simp [execOp, go_sem, e41]
      · simpa [did] using hS
    | 2 =>
      simp only [List.getElem?_toArray, List.getElem?_cons_zero, List.getElem?_cons_succ, Option.some.injEq] at ho
      subst ho
      have p1 : b 1 = true := hd ⟨1, .data⟩ (by simp) rfl
      have e42 := (ev 1 42 rfl p1).trans (vv1 g)
      refine doesg_value rfl (by intro c h; cases h) (v := .pointer (some ⟨wb, 0, none⟩)) (w' := W) ?_ ⟨g, fun _ _ => rfl, (vv2 g).symm, ?_⟩
      · simp [execOp, go_sem, e42]
      · simpa [did] using hS
    | 3 =>
      simp only [List.getElem?_toArray, List.getElem?_cons_zero, List.getElem?_cons_succ, Option.some.injEq] at ho
      subst ho
      have e2 : a.tmps[2]?.getD undef = .int .i64 (at_ : Nat) := (kp 2 (none_till (by kernel_rfl))).trans b2
      refine doesg_value rfl (by intro c h; cases h) (v := .int .i64 (at_ : Nat)) (w' := W) ?_ ⟨g, fun _ _ => rfl, (vv3 g).symm, ?_⟩
      · simp [execOp, go_sem, e2]
      · simpa [did] using hS
    | 4 =>
      simp only [List.getElem?_toArray, List.getElem?_cons_zero, List.getElem?_cons_succ, Option.some.injEq] at ho
      subst ho
      have p3 : b 3 = true := hd ⟨3, .data⟩ (by simp) rfl
      have e44 := (ev 3 44 rfl p3).trans (vv3 g)
      refine doesg_value rfl (by intro c h; cases h) (v := .int .i64 (f : Nat)) (w' := W) ?_ ⟨g, fun _ _ => rfl, (vv4 g).symm, ?_⟩
      · simp [execOp, go_sem, e44, hdv, hwf]
      · simpa [did] using hS
    | 5 =>
      simp only [List.getElem?_toArray, List.getElem?_cons_zero, List.getElem?_cons_succ, Option.some.injEq] at ho
      subst ho
      have e2 : a.tmps[2]?.getD undef = .int .i64 (at_ : Nat) := (kp 2 (none_till (by kernel_rfl))).trans b2
      refine doesg_value rfl (by intro c h; cases h) (v := .int .i64 (at_ : Nat)) (w' := W) ?_ ⟨g, fun _ _ => rfl, (vv5 g).symm, ?_⟩
      · simp [execOp, go_sem, e2]
      · simpa [did] using hS
    | 6 =>
      simp only [List.getElem?_toArray, List.getElem?_cons_zero, List.getElem?_cons_succ, Option.some.injEq] at ho
      subst ho
      have e3 : a.tmps[3]?.getD undef = .int .i64 (bl : Nat) := (kp 3 (none_till (by kernel_rfl))).trans b3
      refine doesg_value rfl (by intro c h; cases h) (v := .int .i64 (bl : Nat)) (w' := W) ?_ ⟨g, fun _ _ => rfl, (vv6 g).symm, ?_⟩
      · simp [execOp, go_sem, e3]
      · simpa [did] using hS
    | 7 =>
      simp only [List.getElem?_toArray, List.getElem?_cons_zero, List.getElem?_cons_succ, Option.some.injEq] at ho
      subst ho
      have p5 : b 5 = true := hd ⟨5, .data⟩ (by simp) rfl
      have p6 : b 6 = true := hd ⟨6, .data⟩ (by simp) rfl
      have e46 := (ev 5 46 rfl p5).trans (vv5 g)
      have e47 := (ev 6 47 rfl p6).trans (vv6 g)
      refine doesg_value rfl (by intro c h; cases h) (v := .int .i64 (e : Nat)) (w' := W) ?_ ⟨g, fun _ _ => rfl, (vv7 g).symm, ?_⟩
      · simp [execOp, go_sem, e46, e47, hsm, hwr]
      · simpa [did] using hS
    | 8 =>
      simp only [List.getElem?_toArray, List.getElem?_cons_zero, List.getElem?_cons_succ, Option.some.injEq] at ho
      subst ho
      have p7 : b 7 = true := hd ⟨7, .data⟩ (by simp) rfl
      have e48 := (ev 7 48 rfl p7).trans (vv7 g)
      refine doesg_call rfl (by intro c h; cases h) (f := 30) (args := #[.int .i64 (e : Nat)]) ?_ ?_
      · simp [go_sem, e48]
      · (refine (cU W).mono ?_; rintro e w' ⟨rfl, rfl⟩; exact ⟨_, rfl, g, fun _ _ => rfl, (vv8 g).symm, by simpa [did] using hS⟩)
    | 9 =>
      simp only [List.getElem?_toArray, List.getElem?_cons_zero, List.getElem?_cons_succ, Option.some.injEq] at ho
      subst ho
      have e10 : a.tmps[10]?.getD undef = .pointer (some ⟨wb, 0, none⟩) := (kp 10 (none_till (by kernel_rfl))).trans b10
      refine doesg_value rfl (by intro c h; cases h) (v := .pointer (some ⟨wb, 0, none⟩)) (w' := W) ?_ ⟨g, fun _ _ => rfl, (vv9 g).symm, ?_⟩
      · simp [execOp, go_sem, e10]
      · simpa [did] using hS
    | 10 =>
      simp only [List.getElem?_toArray, List.getElem?_cons_zero, List.getElem?_cons_succ, Option.some.injEq] at ho
      subst ho
      have p9 : b 9 = true := hd ⟨9, .data⟩ (by simp) rfl
      have e50 := (ev 9 50 rfl p9).trans (vv9 g)
      refine doesg_value rfl (by intro c h; cases h) (v := .func (.func 31) #[.pointer (some ⟨wb, 0, none⟩)] #[]) (w' := W) ?_ ⟨g, fun _ _ => rfl, (vv10 g).symm, ?_⟩
      · simp [execOp, go_sem, e50]
      · simpa [did] using hS
    | 11 =>
      simp only [List.getElem?_toArray, List.getElem?_cons_zero, List.getElem?_cons_succ, Option.some.injEq] at ho
      subst ho
      have p2 : b 2 = true := hd ⟨2, .data⟩ (by simp) rfl
      have p4 : b 4 = true := hd ⟨4, .data⟩ (by simp) rfl
      have p8 : b 8 = true := hd ⟨8, .data⟩ (by simp) rfl
      have p10 : b 10 = true := hd ⟨10, .data⟩ (by simp) rfl
      have e43 := (ev 2 43 rfl p2).trans (vv2 g)
      have e45 := (ev 4 45 rfl p4).trans (vv4 g)
      have e49 := (ev 8 49 rfl p8).trans (vv8 g)
      have e51 := (ev 10 51 rfl p10).trans (vv10 g)
      refine doesg_value rfl (by intro c h; cases h) (v := .agg #[.pointer (some ⟨wb, 0, none⟩), .int .i64 (f : Nat), .int .i64 (t : Nat), .bool false, .func (.func 31) #[.pointer (some ⟨wb, 0, none⟩)] #[]]) (w' := W) ?_ ⟨g, fun _ _ => rfl, (vv11 g).symm, ?_⟩
      · simp [execOp, go_sem, e43, e45, e49, e51]
      · simpa [did] using hS
    | 12 =>
      simp only [List.getElem?_toArray, List.getElem?_cons_zero, List.getElem?_cons_succ, Option.some.injEq] at ho
      subst ho
      have h13 : b 13 = false := by cases h : b 13; rfl; rw [hcl 13 _ rfl h ⟨12, .data⟩ (by simp) rfl] at hb; cases hb
      have hW : W = w.drew := by rw [hS, h13, hb]; rfl
      subst hW
      refine doesg_value rfl (by intro c h; cases h) (v := .pointer (some ⟨w.heap.size, 0, none⟩)) (w' := w.drew.alloc (.cells #[.pointer none, .int .i64 0, .int .i64 0, .bool false, .nilFunc] 81)) ?_ ⟨g, fun _ _ => rfl, (vv12 g).symm, ?_⟩
      · simp [execOp, go_sem]
      · simp [did, h13]
    | 13 =>
      simp only [List.getElem?_toArray, List.getElem?_cons_zero, List.getElem?_cons_succ, Option.some.injEq] at ho
      subst ho
      have p12 : b 12 = true := hd ⟨12, .data⟩ (by simp) rfl
      have p11 : b 11 = true := hd ⟨11, .data⟩ (by simp) rfl
      have e11 := (ev 12 11 rfl p12).trans (vv12 g)
      have e52 := (ev 11 52 rfl p11).trans (vv11 g)
      have hW : W = w.drew.alloc (.cells #[.pointer none, .int .i64 0, .int .i64 0, .bool false, .nilFunc] 81) := by rw [hS, hb, p12]; rfl
      subst hW
      refine doesg_skip rfl (by intro c h; cases h) (w' := w.drew.alloc (.cells #[.pointer (some ⟨wb, 0, none⟩), .int .i64 (f : Nat), .int .i64 (t : Nat), .bool false, .func (.func 31) #[.pointer (some ⟨wb, 0, none⟩)] #[]] 81)) ?_ ⟨g, fun _ _ => rfl, (vv13 g).symm, ?_⟩
      · simp [execOp, go_sem, e11, e52]
      · exact by simp [did]
    | k + 14 => simp at ho
  · intro g b W hS hall
    rw [hall 13 (by decide), if_pos rfl] at hS
    rw [hS]
    exact hQ

end Go.Proofs.YtebdgcoandfocaaGreatDoor

namespace Go.Proofs.YtebdgcoandfocaaGreatDoor
open Go.RowKit Go.Maps Go.Sort Go.Shelf

theorem spotC_get {X : List (Nat × BitVec 32 × Bool)} {i : Nat} {q : Nat × BitVec 32 × Bool} (h : X[i]? = some q) : (spotC X)[i * 3]? = some (.int .i64 (q.1 : Nat)) ∧ (spotC X)[i * 3 + 1]? = some (u32v q.2.1) ∧ (spotC X)[i * 3 + 2]? = some (.bool q.2.2) := by
  induction X generalizing i with
  | nil => simp at h
  | cons x X ih =>
    have e : spotC (x :: X) = .int .i64 (x.1 : Nat) :: u32v x.2.1 :: .bool x.2.2 :: spotC X := rfl
    rw [e]
    rcases i with _ | i
    · simp only [List.getElem?_cons_zero, Option.some.injEq] at h
      subst h
      simp
    · have := ih (i := i) (by simpa using h)
      rw [show (i + 1) * 3 = i * 3 + 1 + 1 + 1 by omega]
      simpa using this

section
variable {LP : Nat → World → Prop} {w0 ws : World} {wb c nb : Nat} {V : Nat → By} {U0 : Nat → Bool} {n at_ : Nat} {bl bc bg bo : Nat}

theorem fils_b (V : Nat → By) (at_ : Nat) (bs : By) : ∀ (X : List (Nat × BitVec 32 × Bool)) (s : WS), (X.foldl (filS V at_ bs) s).b ≤ s.b + 2 * X.length
  | [], s => by simp
  | q :: X, s => by
    have h1 := filS_b V at_ bs s q
    have h2 := fils_b V at_ bs X (filS V at_ bs s q)
    rw [List.foldl_cons, List.length_cons]
    omega

set_option maxRecDepth 8000 in
set_option maxHeartbeats 4000000 in
theorem plan_J (hL : LPok LP w0 c nb V) (ht : Bm.Tab64 ws) (h6 : 1 < w0.heap.size) (s0 : WS) (w : World) (h : WJ LP w0 ws wb c U0 n at_ (some ⟨bg, bo, none⟩) bl bc s0 w) (hb : s0.b + 18000 ≤ 700000) (bs : By) (hbs : Bytes ws (some ⟨bg, bo, none⟩) bs) (htg : bg < ws.heap.size ∧ ¬ Cmn w0 ws bg) (hbl : bs.length = bl) (hb1 : 1 ≤ bl) (hbc : bl ≤ bc) (hmx : at_ + bl ≤ 65536)
    (g : Nat) (ns : List (BitVec 32)) (hn : ns.length = 10) (hr : NumsAt w g ns) (hlo : ws.heap.size ≤ g) (f t : Nat) (hf : at_ / 512 = f) (htt : blocksOf (at_ + bl) = t) (R : List (BitVec 32) × Int × WS) (hR : Ino.ovr (wOps (Ino.frees n U0) nb V) true f t (fnd (Ino.frees n U0)) ns s0 = R)
    (hX : R.2.1 = 0 → R.2.2.X.length ≤ 200 ∧ ∀ q ∈ R.2.2.X, SpotOk nb at_ bl q) :
    Calls Tryz.prog 26 #[.pointer (some ⟨wb, 0, none⟩), .pointer (some ⟨g, 0, none⟩)] w fun e w' => e = .returned (.int .i64 R.2.1) ∧ (R.2.1 ≠ 0 → WJ LP w0 ws wb c U0 n at_ (some ⟨bg, bo, none⟩) bl bc R.2.2 w') ∧ (R.2.1 = 0 → WJ LP w0 ws wb c U0 n at_ (some ⟨bg, bo, none⟩) bl bc (R.2.2.X.foldl (filS V at_ bs) R.2.2) w' ∧ NumsAt w' g R.1 ∧ R.1.length = 10) := by
  have H := handsW (U0 := U0) (n := n) (wb := wb) (at_ := at_) (pb := some ⟨bg, bo, none⟩) (bl := bl) (bc := bc) hL ht h6 f t
  have hcost := ovr_cost H ns hn s0
  rw [hR] at hcost
  have cU : ∀ W, Calls Tryz.prog 30 #[.int .i64 ((at_ + bl : Nat) : Int)] W fun e w' => e = .returned (.int .i64 (t : Nat)) ∧ w' = W := fun W => by rw [← htt]; exact upTo_any (at_ + bl) (by omega) W
  have hft : f ≤ 128 := by omega
  have ht2 : t ≤ 128 := by unfold blocksOf at htt; omega
  obtain ⟨mf, sX, hc, h2, h3, h4, h5, h7⟩ := h.ex
  obtain ⟨sT, sG, sP, D, hw, hr0⟩ := hc.blk
  have b5 := hw.cell (i := 5) rfl
  have b6 := hw.cell (i := 6) rfl
  have hW : ∀ W, WJ LP w0 ws wb c U0 n at_ (some ⟨bg, bo, none⟩) bl bc R.2.2 W → True := fun _ _ => trivial
  obtain ⟨w1, hw1⟩ : ∃ w1, w1 = w.drew.alloc (.cells #[.pointer (some ⟨wb, 0, none⟩), .int .i64 (f : Nat), .int .i64 (t : Nat), .bool true, .func (.func 41) #[.pointer (some ⟨wb, 0, none⟩)] #[]] 81) := ⟨_, rfl⟩
  have hB1 : Below w.heap.size w w1 := by rw [hw1]; exact ((Below.refl _ w).drew).alloc (Nat.le_refl _) _
  have hk1 : WalkAt w1 w.heap.size (.pointer (some ⟨wb, 0, none⟩)) f t true (.func (.func 41) #[.pointer (some ⟨wb, 0, none⟩)] #[]) := by rw [hw1]; exact heap_alloc_new w.drew _
  have cO := over_J H w.heap.size g ns s0 w1 hn hk1 (hr.below hB1 (Array.getElem?_eq_some_iff.1 hr).1) (h.below hL hB1) hlo (by show s0.b + 16804 ≤ _; omega)
  rw [hR] at cO
  have hcost' : R.2.2.b ≤ s0.b + 16804 := hcost
  have HS := hide (⟨hbs, htg, hr⟩ : _ ∧ _ ∧ _)
  have HX := hide hX
  obtain ⟨ns', er, s1⟩ := R
  dsimp only at cO HX hcost' ⊢
  clear H hcost hR hX hc h2 h3 h4 h5 h7 hw hr0 hbs htg hr hB1 hk1 h hW
  refine (show Calls Tryz.prog 26 #[.pointer (some ⟨wb, 0, none⟩), .pointer (some ⟨g, 0, none⟩)] w (fun e w' => Hid (e = .returned (.int .i64 er) ∧ (er ≠ 0 → WJ LP w0 ws wb c U0 n at_ (some ⟨bg, bo, none⟩) bl bc s1 w') ∧ (er = 0 → WJ LP w0 ws wb c U0 n at_ (some ⟨bg, bo, none⟩) bl bc (s1.X.foldl (filS V at_ bs) s1) w' ∧ NumsAt w' g ns' ∧ ns'.length = 10))) from ?_).mono (fun e w' h => h.out)
  go_enter Tryz.func26, Tryz.ntmps26
  go_wp2_with fail
  refine plan_reg (by kernel_rfl) rfl wb bg bo bl bc at_ f (at_ + bl) t w rfl b5 b6 (by rw [Int.tdiv_eq_ediv_of_nonneg (by omega)]; omega) (by omega) (by rw [IntKind.wrap_i64]; omega) (by rw [IntKind.wrap_i64]; omega) cU ?_
  rw [← hw1]
  clear hw1 cU b5 b6
  unfold planG
  simp only [putAll]
  go_wp2_with (go_at_call 29; refine cO.mono ?_; rintro e w2 ⟨ns2, er2, s2, heq, rfl, h21, h22, h23⟩; clear cO; refine Stop.out ?_)
  refine Stop.mk ?_
  cases heq
  by_cases her : er = 0
  · obtain ⟨hXl, hXo⟩ := HX.out her
    obtain ⟨hn2, hn10⟩ := h23 her
    have HE := hide her
    have q1 : (er != 0) = false := by simp [her]
    have q2 : (er == 0) = true := by simp [her]
    clear her
    obtain ⟨mf2, sX2, hc2, h2b, h2c, h2d, h2e, h2f⟩ := h21.ex
    obtain ⟨sT2, sG2, sP2, D2, hw2, _⟩ := hc2.blk
    have b7 : w2.cell? ⟨wb, 7, none⟩ = some sX2 := hw2.cell (i := 7) rfl
    obtain ⟨L, hLn⟩ : ∃ L, s1.X.length = L := ⟨_, rfl⟩
    have hform : (sX2 = .slice none 0 0 ∧ s1.X.length = 0) ∨ ∃ g cap, sX2 = .slice (some ⟨g, 0, none⟩) s1.X.length cap := by
      rcases h2f.2 with ⟨e, e2⟩ | ⟨g, cap, _, e, _⟩
      · exact .inl ⟨e, e2⟩
      · exact .inr ⟨g, cap, e⟩
    rw [hLn] at hform hXl
    have H2 := hide (⟨h21, h2f, hn2, hn10, hXo, hLn⟩ : _ ∧ _ ∧ _ ∧ _ ∧ _ ∧ _)
    clear hc2 h2b h2c h2d h2e hw2 h21 h2f hn2 hn10 hXo hLn h22 h23
    rcases hform with ⟨hs, hL0⟩ | ⟨gX, cX, hs⟩
    · subst hs
      subst hL0
      have HFX : Hid (s1.X = []) := List.eq_nil_of_length_eq_zero H2.out.2.2.2.2.2
      go_wp2_with fail
      go_loop [42] (fun ii => ii = .int .i64 0) (fun _ => 0)
      case atStart => rfl
      case round =>
        subst hrel
        go_wp2
        go_ret
        have h1 : WJ LP w0 ws wb c U0 n at_ (some ⟨bg, bo, none⟩) bl bc (s1.X.foldl (filS V at_ bs) s1) w2 := by
          have h1 := H2.out.1
          rw [HFX.out]
          exact h1
        exact hide ⟨by rw [HE.out]; rfl, fun h => absurd HE.out h, fun _ => ⟨h1, H2.out.2.2.1, H2.out.2.2.2.1⟩⟩
    · subst hs
      go_wp2_with fail
      go_loopw [42] (fun ii wr => ∃ i : Nat, i ≤ L ∧ ii = .int .i64 i ∧ Hid (WJ LP w0 ws wb c U0 n at_ (some ⟨bg, bo, none⟩) bl bc ((s1.X.take i).foldl (filS V at_ bs) s1) wr ∧ But (CT 71 w2) w2 wr)) (fun ii _ => L - (intOf ii).toNat)
      case atStart => exact ⟨0, Nat.zero_le _, rfl, H2.out.1, But.refl _ _⟩
      case round =>
        obtain ⟨i, hi, rfl, HI⟩ := hrel
        by_cases hlt : i < L
        · have hlti : (i : Int) < L := by omega
          obtain ⟨q, hq⟩ : ∃ q, s1.X[i]? = some q := ⟨_, List.getElem?_eq_getElem (by have := H2.out.2.2.2.2.2; omega)⟩
          have hsp := spot_ct okW H2.out.2.1 HI.out.2
          obtain ⟨c0, c1, c2⟩ := spotC_get hq
          have d0 := hsp.cells (g := gX) rfl _ _ c0
          have d1 := hsp.cells (g := gX) rfl _ _ c1
          have d2 := hsp.cells (g := gX) rfl _ _ c2
          rw [Addr.add_lit, Nat.zero_add] at d0 d1 d2
          have hfr := HI.out.1.ex
          have cF : ∀ W, Below wr.heap.size wr W → Calls Tryz.prog 42 #[.pointer (some ⟨wb, 0, none⟩), .agg #[.int .i64 (q.1 : Nat), u32v q.2.1, .bool q.2.2]] W fun e w' => e = .returned (.int .i64 0) ∧ WJ LP w0 ws wb c U0 n at_ (some ⟨bg, bo, none⟩) bl bc ((s1.X.take (i + 1)).foldl (filS V at_ bs) s1) w' ∧ But (CT 71 w2) w2 w' := by
            intro W hW
            have hbi := fils_b V at_ bs (s1.X.take i) s1
            rw [List.length_take] at hbi
            have h1 := HI.out.1.below hL hW
            obtain ⟨mf3, sX3, hc3, _⟩ := h1.ex
            obtain ⟨htg, hnc⟩ := HS.out.2.1
            have hkb := hc3.fr.block bg htg hnc
            refine (fill_J hL h1 (by omega) bs ?_ hbl hb1 hbc ⟨Nat.lt_of_lt_of_le htg hc3.fr.size, fun hc => hnc ⟨hc.1, fun cs t fr hk => hc.2 cs t fr (hkb.trans hk)⟩⟩ hmx q (H2.out.2.2.2.2.1 q (List.mem_of_getElem? hq))).mono ?_
            · intro h0
              obtain ⟨s', o', e', hx⟩ := HS.out.1 h0
              cases e'
              exact ⟨bg, bo, rfl, fun j x hj => (World.cell?_of_block (w := ws) hkb).trans (hx j x hj)⟩
            · rintro e w' ⟨rfl, h2, h3⟩
              refine ⟨rfl, ?_, ct_trans (ct_trans HI.out.2 (ct_below hW)) h3⟩
              rw [List.take_add_one, hq, List.foldl_append]
              exact h2
          unfold u32v at d1 cF
          have HcF := hide cF
          clear cF hsp c0 c1 c2 hfr hq
          have cF' := HcF.out _ ((Below.refl _ wr).alloc (Nat.le_refl _) (.cells #[.int .i64 (q.1 : Int), .int .u32 (q.2.1.toNat : Int), .bool q.2.2] 102))
          clear HcF
          go_wp2_with (go_at_call 42; refine cF'.mono ?_; rintro e w3 ⟨rfl, h31, h32⟩; clear cF'; have H31 := hide (And.intro h31 h32); clear h31 h32)
          exact ⟨⟨i + 1, by omega, by go_num, H31.out⟩, by simp [intOf]; omega⟩
        · obtain rfl : i = L := by omega
          have HF := hide (⟨HI.out.1, HI.out.2⟩ : _ ∧ _)
          clear HI
          go_wp2
          go_ret
          have h1 := HF.out.1
          rw [List.take_of_length_le (by rw [H2.out.2.2.2.2.2]; exact Nat.le_refl _)] at h1
          exact hide ⟨by rw [HE.out]; rfl, fun h => absurd HE.out h, fun _ => ⟨h1, (ct_kp okW HF.out.2).2 _ _ _ _ H2.out.2.2.1 (.inr (.inl rfl)) (by simp), H2.out.2.2.2.1⟩⟩
  · have H3 := hide h21
    have q1 : (er != 0) = true := by simp [her]
    have q2 : (er == 0) = false := by simp [her]
    clear h21 h22 h23
    go_wp2
    go_ret
    exact hide ⟨rfl, fun _ => H3.out, fun h => absurd h her⟩

end
end Go.Proofs.YtebdgcoandfocaaGreatDoor
