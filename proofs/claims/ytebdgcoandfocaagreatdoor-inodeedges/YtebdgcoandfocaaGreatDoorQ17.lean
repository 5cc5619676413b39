/-
  What the proof leans on, part 18.
-/
import Derived.Test.YtebdgcoandfocaaGreatDoorQ16

/-
  Package inode: take, give, put and get over a change in memory.
-/
namespace Go.Proofs.YtebdgcoandfocaaGreatDoor
open Go.RowKit Go.Maps Go.Sort Go.Shelf

section
variable {LP : Nat → World → Prop} {w0 ws : World} {lo wb c nb : Nat} {V : Nat → By} {tt : TypeId} {fp : Value} {exs : List Value} {b : Nat} {T G : List Nat} {P : List (Nat × By)} {w : World}

theorem ch_foreign {w1 : World} {sv : Value} {e : TypeId} {size n : Nat} {xs cs : List Value} {base : Nat} (htt : okTT tt) (hw : BlkAt w1 wb cs tt) (hr : w1.ownsRow base e size sv n xs) (he : foreignT e) : Foreign w1 (fun k => k = wb ∨ sv.ownBlock = some k) := by
  rintro k (rfl | hk)
  · exact ⟨_, _, _, hw, htt.f⟩
  · obtain ⟨_, cs', hc⟩ := own_type hr hk
    exact ⟨_, _, _, hc, he⟩
theorem ch_ct {w1 w2 : World} {sv : Value} {e : TypeId} {size n : Nat} {xs cs : List Value} {base : Nat} (hw : BlkAt w1 wb cs tt) (hr : w1.ownsRow base e size sv n xs) (he : e = 3 ∨ e = 143) (hb : But (fun k => k = wb ∨ sv.ownBlock = some k) w1 w2) : But (CT tt w1) w1 w2 := by
  refine hb.mono ?_
  rintro k _ (rfl | hk) cs' t fr hh
  · rw [show w1.heap[k]? = _ from hw] at hh
    simp only [Option.some.injEq, Obj.cells.injEq] at hh
    exact .inr (.inr (.inl hh.2.1.symm))
  · obtain ⟨_, cs2, hc⟩ := own_type hr hk
    rw [hc] at hh
    simp only [Option.some.injEq, Obj.cells.injEq] at hh
    rcases he with rfl | rfl
    · exact .inl hh.2.1.symm
    · exact .inr (.inl hh.2.1.symm)

/-- A number more is taken. -/
theorem CJ.took (hL : LPok LP w0 c nb V) (htt : okTT tt) {w1 w2 : World} {sT sG sP v2 : Value} {D : List (Nat × Nat)} {r : Nat} {o : Obj} (hlp : LP b w1) (hfr : But (Cmn w0 ws) ws w1) (hls : ws.heap.size ≤ lo) (hlo : lo ≤ wb) (hw : BlkAt w1 wb (ep c :: fp :: sT :: sG :: sP :: exs) tt) (hr : CR w1 lo T G P sT sG sP D) (hlen : T.length ≤ b ∧ G.length ≤ b ∧ P.length ≤ b)
    (hown : w2.ownsRow lo 3 1 v2 (T.length + 1) (T.map i64n ++ [i64n r])) (hg : (w1.alloc o).grownBy w2 sT.ownBlock) (hat : v2.ownBlock = sT.ownBlock ∨ v2.ownBlock = some (w1.alloc o).heap.size) :
    BlkAt w2 wb (ep c :: fp :: sT :: sG :: sP :: exs) tt ∧ (∃ g cap, v2 = .slice (some ⟨g, 0, none⟩) (T.length + 1) cap) ∧ CJ LP w0 ws lo wb c tt fp exs (b + 1) (T ++ [r]) G P (w2.setCell ⟨wb, 2, none⟩ v2) ∧ But (CT tt w1) w1 (w2.setCell ⟨wb, 2, none⟩ v2) ∧ But (fun k => k = wb ∨ sT.ownBlock = some k) w1 (w2.setCell ⟨wb, 2, none⟩ v2) := by
  obtain ⟨hw2, g, cap, rfl, hb2, ho2, hbut, hgo⟩ := app_field (i := 2) hw htt.n.1 hr.t hown hg hat
  have hf := ch_foreign htt hw hr.t (by unfold foreignT; decide)
  have hne : ∀ k, sT.ownBlock = some k → sG.ownBlock = some k → False := hr.ap
  have hwlt := hw.lt
  refine ⟨hw2, ⟨g, cap, rfl⟩, ⟨hL.more _ _ (hL.foreign b w1 _ _ hlp hbut hf), cmn_hi hfr hbut (fun k hk => ?_), hls, hlo, ⟨_, sG, sP, D, hb2, ?_⟩, ?_⟩, ch_ct hw hr.t (.inl rfl) hbut, hbut⟩
  · rcases hk with rfl | hk
    · exact .inl (Nat.le_trans hls hlo)
    · exact .inl (Nat.le_trans hls (own_type hr.t hk).1)
  · have hSne : ∀ k cs t fr, w1.heap[k]? = some (.cells cs t fr) → t = 143 ∨ t = 5 → ¬ (k = wb ∨ sT.ownBlock = some k) := by
      rintro k cs t fr hk ht (rfl | hs)
      · rw [show w1.heap[k]? = _ from hw] at hk
        simp only [Option.some.injEq, Obj.cells.injEq] at hk
        rcases ht with e | e
        · exact htt.n.2.1 (hk.2.1.trans e)
        · exact htt.f.2.2.2.2.2.2.1 (hk.2.1.trans e)
      · obtain ⟨_, cs2, hc⟩ := own_type hr.t hs
        rw [hc] at hk
        simp only [Option.some.injEq, Obj.cells.injEq] at hk
        rcases ht with e | e
        · rw [e] at hk; exact absurd hk.2.1 (by decide)
        · rw [e] at hk; exact absurd hk.2.1 (by decide)
    have hgG : w1.ownsRow lo 3 1 sG G.length (G.map i64n) := hr.g
    refine ⟨by simpa using ho2, own_butI hr.g hbut (fun k cs hk hc hs => ?_), fun k h1 h2 => ?_, own_butI hr.p hbut (fun k cs _ hk => hSne k cs _ _ hk (.inl rfl)), hr.dl, ?_⟩
    · rcases hs with rfl | hs
      · rw [show w1.heap[k]? = _ from hw] at hc
        simp only [Option.some.injEq, Obj.cells.injEq] at hc
        exact htt.n.1 hc.2.1
      · exact hne k hs hk
    · have hk : g = k := by simpa [Value.ownBlock] using h1
      subst hk
      rcases hgo with e | e
      · exact hne g e h2
      · obtain ⟨_, cs, hc⟩ := own_type hr.g h2
        have := (Array.getElem?_eq_some_iff.1 hc).1
        omega
    · intro i p d h1 h2
      obtain ⟨h3, h4, ⟨cs, fr, h5⟩, h8⟩ := hr.d i p d h1 h2
      obtain ⟨h6, h7⟩ := bytes_kept h3 ⟨cs, fr, h5⟩ hbut (hSne d.1 cs 5 fr h5 (.inr rfl))
      exact ⟨h6, h4, h7, h8⟩
  · rw [List.length_append]; simp; omega

end
end Go.Proofs.YtebdgcoandfocaaGreatDoor

/-
  Package inode: give, put and get over a change in memory.
-/
namespace Go.Proofs.YtebdgcoandfocaaGreatDoor
open Go.RowKit Go.Maps Go.Sort Go.Shelf

section
variable {LP : Nat → World → Prop} {w0 ws : World} {lo wb c nb : Nat} {V : Nat → By} {tt : TypeId} {fp : Value} {exs : List Value} {b : Nat} {T G : List Nat} {P : List (Nat × By)} {w : World}

/-- A number more is given. -/
theorem CJ.gave (hL : LPok LP w0 c nb V) (htt : okTT tt) {w1 w2 : World} {sT sG sP v2 : Value} {D : List (Nat × Nat)} {r : Nat} {o : Obj} (hlp : LP b w1) (hfr : But (Cmn w0 ws) ws w1) (hls : ws.heap.size ≤ lo) (hlo : lo ≤ wb) (hw : BlkAt w1 wb (ep c :: fp :: sT :: sG :: sP :: exs) tt) (hr : CR w1 lo T G P sT sG sP D) (hlen : T.length ≤ b ∧ G.length ≤ b ∧ P.length ≤ b)
    (hown : w2.ownsRow lo 3 1 v2 (G.length + 1) (G.map i64n ++ [i64n r])) (hg : (w1.alloc o).grownBy w2 sG.ownBlock) (hat : v2.ownBlock = sG.ownBlock ∨ v2.ownBlock = some (w1.alloc o).heap.size) :
    BlkAt w2 wb (ep c :: fp :: sT :: sG :: sP :: exs) tt ∧ (∃ g cap, v2 = .slice (some ⟨g, 0, none⟩) (G.length + 1) cap) ∧ CJ LP w0 ws lo wb c tt fp exs (b + 1) T (G ++ [r]) P (w2.setCell ⟨wb, 3, none⟩ v2) ∧ But (CT tt w1) w1 (w2.setCell ⟨wb, 3, none⟩ v2) ∧ But (fun k => k = wb ∨ sG.ownBlock = some k) w1 (w2.setCell ⟨wb, 3, none⟩ v2) := by
  obtain ⟨hw2, g, cap, rfl, hb2, ho2, hbut, hgo⟩ := app_field (i := 3) hw htt.n.1 hr.g hown hg hat
  have hf := ch_foreign htt hw hr.g (by unfold foreignT; decide)
  have hne : ∀ k, sT.ownBlock = some k → sG.ownBlock = some k → False := hr.ap
  have hwlt := hw.lt
  refine ⟨hw2, ⟨g, cap, rfl⟩, ⟨hL.more _ _ (hL.foreign b w1 _ _ hlp hbut hf), cmn_hi hfr hbut (fun k hk => ?_), hls, hlo, ⟨sT, _, sP, D, hb2, ?_⟩, ?_⟩, ch_ct hw hr.g (.inl rfl) hbut, hbut⟩
  · rcases hk with rfl | hk
    · exact .inl (Nat.le_trans hls hlo)
    · exact .inl (Nat.le_trans hls (own_type hr.g hk).1)
  · have hSne : ∀ k cs t fr, w1.heap[k]? = some (.cells cs t fr) → t = 143 ∨ t = 5 → ¬ (k = wb ∨ sG.ownBlock = some k) := by
      rintro k cs t fr hk ht (rfl | hs)
      · rw [show w1.heap[k]? = _ from hw] at hk
        simp only [Option.some.injEq, Obj.cells.injEq] at hk
        rcases ht with e | e
        · exact htt.n.2.1 (hk.2.1.trans e)
        · exact htt.f.2.2.2.2.2.2.1 (hk.2.1.trans e)
      · obtain ⟨_, cs2, hc⟩ := own_type hr.g hs
        rw [hc] at hk
        simp only [Option.some.injEq, Obj.cells.injEq] at hk
        rcases ht with e | e
        · rw [e] at hk; exact absurd hk.2.1 (by decide)
        · rw [e] at hk; exact absurd hk.2.1 (by decide)
    refine ⟨own_butI hr.t hbut (fun k cs hk hc hs => ?_), by simpa using ho2, fun k h1 h2 => ?_, own_butI hr.p hbut (fun k cs _ hk => hSne k cs _ _ hk (.inl rfl)), hr.dl, ?_⟩
    · rcases hs with rfl | hs
      · rw [show w1.heap[k]? = _ from hw] at hc
        simp only [Option.some.injEq, Obj.cells.injEq] at hc
        exact htt.n.1 hc.2.1
      · exact hne k hk hs
    · have hk : g = k := by simpa [Value.ownBlock] using h2
      subst hk
      rcases hgo with e | e
      · exact hne g h1 e
      · obtain ⟨_, cs, hc⟩ := own_type hr.t h1
        have := (Array.getElem?_eq_some_iff.1 hc).1
        omega
    · intro i p d h1 h2
      obtain ⟨h3, h4, ⟨cs, fr, h5⟩, h8⟩ := hr.d i p d h1 h2
      obtain ⟨h6, h7⟩ := bytes_kept h3 ⟨cs, fr, h5⟩ hbut (hSne d.1 cs 5 fr h5 (.inr rfl))
      exact ⟨h6, h4, h7, h8⟩
  · rw [List.length_append]; simp; omega

/-- A put more. -/
theorem CJ.puts (hL : LPok LP w0 c nb V) (htt : okTT tt) {w1 w2 : World} {sT sG sP v2 : Value} {D : List (Nat × Nat)} {x dg dc : Nat} {bs : By} {o : Obj} (hlp : LP b w1) (hfr : But (Cmn w0 ws) ws w1) (hls : ws.heap.size ≤ lo) (hlo : lo ≤ wb) (hw : BlkAt w1 wb (ep c :: fp :: sT :: sG :: sP :: exs) tt) (hr : CR w1 lo T G P sT sG sP D) (hlen : T.length ≤ b ∧ G.length ≤ b ∧ P.length ≤ b)
    (hbs : Bytes w1 (some ⟨dg, 0, none⟩) bs) (hbl : bs.length = 512) (htg : ∃ cs fr, w1.heap[dg]? = some (.cells cs 5 fr)) (hdl : lo ≤ dg)
    (hown : w2.ownsRow lo 143 2 v2 (P.length + 1) (putC P D ++ [.int .i64 (x : Nat), .slice (some ⟨dg, 0, none⟩) 512 dc])) (hg : (w1.alloc o).grownBy w2 sP.ownBlock) (hat : v2.ownBlock = sP.ownBlock ∨ v2.ownBlock = some (w1.alloc o).heap.size) :
    BlkAt w2 wb (ep c :: fp :: sT :: sG :: sP :: exs) tt ∧ (∃ g cap, v2 = .slice (some ⟨g, 0, none⟩) (P.length + 1) cap) ∧ CJ LP w0 ws lo wb c tt fp exs (b + 1) T G (P ++ [(x, bs)]) (w2.setCell ⟨wb, 4, none⟩ v2) ∧ But (CT tt w1) w1 (w2.setCell ⟨wb, 4, none⟩ v2) ∧ But (fun k => k = wb ∨ sP.ownBlock = some k) w1 (w2.setCell ⟨wb, 4, none⟩ v2) := by
  obtain ⟨hw2, g, cap, rfl, hb2, ho2, hbut, hgo⟩ := app_field (i := 4) hw htt.n.2.1 hr.p hown hg hat
  have hf := ch_foreign htt hw hr.p (by unfold foreignT; decide)
  refine ⟨hw2, ⟨g, cap, rfl⟩, ⟨hL.more _ _ (hL.foreign b w1 _ _ hlp hbut hf), cmn_hi hfr hbut (fun k hk => ?_), hls, hlo, ⟨sT, sG, _, D ++ [(dg, dc)], hb2, ?_⟩, ?_⟩, ch_ct hw hr.p (.inr rfl) hbut, hbut⟩
  · rcases hk with rfl | hk
    · exact .inl (Nat.le_trans hls hlo)
    · exact .inl (Nat.le_trans hls (own_type hr.p hk).1)
  · have hSne : ∀ k cs t fr, w1.heap[k]? = some (.cells cs t fr) → t = 3 ∨ t = 5 → ¬ (k = wb ∨ sP.ownBlock = some k) := by
      rintro k cs t fr hk ht (rfl | hs)
      · rw [show w1.heap[k]? = _ from hw] at hk
        simp only [Option.some.injEq, Obj.cells.injEq] at hk
        rcases ht with e | e
        · exact htt.n.1 (hk.2.1.trans e)
        · exact htt.f.2.2.2.2.2.2.1 (hk.2.1.trans e)
      · obtain ⟨_, cs2, hc⟩ := own_type hr.p hs
        rw [hc] at hk
        simp only [Option.some.injEq, Obj.cells.injEq] at hk
        rcases ht with e | e
        · rw [e] at hk; exact absurd hk.2.1 (by decide)
        · rw [e] at hk; exact absurd hk.2.1 (by decide)
    refine ⟨own_butI hr.t hbut (fun k cs _ hk => hSne k cs _ _ hk (.inl rfl)), own_butI hr.g hbut (fun k cs _ hk => hSne k cs _ _ hk (.inl rfl)), hr.ap, ?_, by simp [hr.dl], ?_⟩
    · rw [putC_snoc P D _ _ hr.dl, List.length_append]; exact ho2
    · intro i p d h1 h2
      rw [List.getElem?_append] at h1 h2
      by_cases hi : i < P.length
      · rw [if_pos hi] at h1
        rw [if_pos (by rw [hr.dl]; exact hi)] at h2
        obtain ⟨h3, h4, ⟨cs, fr, h5⟩, h8⟩ := hr.d i p d h1 h2
        obtain ⟨h6, h7⟩ := bytes_kept h3 ⟨cs, fr, h5⟩ hbut (hSne d.1 cs 5 fr h5 (.inr rfl))
        exact ⟨h6, h4, h7, h8⟩
      · rw [if_neg hi] at h1
        rw [if_neg (by rw [hr.dl]; exact hi)] at h2
        have hi0 : i - P.length = 0 := by
          have := (List.getElem?_eq_some_iff.1 h1).1
          simp at this; omega
        rw [hi0] at h1
        rw [hr.dl, hi0] at h2
        simp only [List.getElem?_cons_zero, Option.some.injEq] at h1 h2
        subst h1; subst h2
        obtain ⟨cs, fr, h5⟩ := htg
        obtain ⟨h6, h7⟩ := bytes_kept hbs ⟨cs, fr, h5⟩ hbut (hSne dg cs 5 fr h5 (.inr rfl))
        exact ⟨h6, hbl, h7, hdl⟩
  · rw [List.length_append]; simp; omega

set_option maxRecDepth 8000 in
set_option maxHeartbeats 1000000 in
theorem give_J (hL : LPok LP w0 c nb V) (htt : okTT tt) (h : CJ LP w0 ws lo wb c tt fp exs b T G P w) (hb : b < 700000) (n : BitVec 32) :
    Calls Tryz.prog 45 #[.pointer (some ⟨wb, 0, none⟩), u32v n] w fun e w' => e = .returned (.tuple #[]) ∧ CJ LP w0 ws lo wb c tt fp exs (b + 1) T (G ++ [n.toNat]) P w' ∧ But (CT tt w) w w' := by
  obtain ⟨sT, sG, sP, D, hw, hr⟩ := h.blk
  have hlt := n.isLt
  have d1 : w.cell? ⟨wb, 3, none⟩ = some sG := hw.cell (i := 3) rfl
  obtain ⟨k0, hk0, hx0, hx1, hx2⟩ := info_parts Tryz.infoI
  have hcv : IntKind.i64.wrap (n.toNat : Int) = (n.toNat : Int) := by rw [IntKind.wrap_i64]; omega
  have hlen := h.len
  have hsz := h.size
  have HC : Hid (CJ LP w0 ws lo wb c tt fp exs b T G P w ∧ BlkAt w wb (ep c :: fp :: sT :: sG :: sP :: exs) tt ∧ CR w lo T G P sT sG sP D) := ⟨h, hw, hr⟩
  unfold u32v
  have hform : sG = .slice none 0 0 ∨ ∃ g cap, sG = .slice (some ⟨g, 0, none⟩) G.length cap := by
    rcases hr.g.2 with ⟨e, _⟩ | ⟨g, cap, _, e, _⟩
    · exact .inl e
    · exact .inr ⟨g, cap, e⟩
  clear hw hr h
  rcases hform with hs | ⟨gs, gc, hs⟩
  all_goals
    rw [hs] at d1
    go_enter Tryz.func45, Tryz.ntmps45
    go_wp2_with (at_builtin; refine Stop.out ?_)
    refine Stop.mk ?_
    refine wpList_append_own_at _ rfl _ _ 65 rfl lo 3 k0 (.int .i64 0) 1 8 Tryz.underlying65 hk0 hx0 hx1 hx2 rfl (by decide) sG G.length (G.map i64n) (by rw [hs]; rfl) (HC.out.2.2.g.alloc _) ⟨w.heap.size, 0, none⟩ 1 1 [i64n n.toNat] rfl rfl (cell_one_new _ _ _) (by intro u hu; rw [List.mem_singleton.1 hu]; rfl) (by unfold maxLen; omega) (by omega) (by simp; omega) ?_
    intro v2 w2 hown2 hg2 _ hat2
    obtain ⟨hw2, ⟨g, cap, rfl⟩, H1, H2, _⟩ := CJ.gave hL htt HC.out.1.lp HC.out.1.fr HC.out.1.hlo HC.out.1.lo HC.out.2.1 HC.out.2.2 HC.out.1.len hown2 hg2 hat2
    have d3 : w2.cell? ⟨wb, 3, none⟩ = some sG := hw2.cell (i := 3) rfl
    rw [hs] at d3
    have f3 : w2.frozen? ⟨wb, 3, none⟩ = false := frozenOf hw2 _
    have HF := hide (And.intro H1 H2)
    clear hown2 hg2 hat2 hw2 H1 H2
    go_wp2
    go_end0
    exact ⟨rfl, HF.out.1, HF.out.2⟩

set_option maxRecDepth 8000 in
set_option maxHeartbeats 1000000 in
theorem put_J (hL : LPok LP w0 c nb V) (htt : okTT tt) (h : CJ LP w0 ws lo wb c tt fp exs b T G P w) (hb : b < 700000) (n : BitVec 32) (dg dc : Nat) (bs : By) (hbs : Bytes w (some ⟨dg, 0, none⟩) bs) (hbl : bs.length = 512) (htg : ∃ cs fr, w.heap[dg]? = some (.cells cs 5 fr)) (hdl : lo ≤ dg) :
    Calls Tryz.prog 64 #[.pointer (some ⟨wb, 0, none⟩), u32v n, .slice (some ⟨dg, 0, none⟩) 512 dc] w fun e w' => e = .returned (.tuple #[]) ∧ CJ LP w0 ws lo wb c tt fp exs (b + 1) T G (P ++ [(n.toNat, bs)]) w' ∧ But (CT tt w) w w' := by
  obtain ⟨sT, sG, sP, D, hw, hr⟩ := h.blk
  have hlt := n.isLt
  have d1 : w.cell? ⟨wb, 4, none⟩ = some sP := hw.cell (i := 4) rfl
  obtain ⟨k0, hk0, hx0, hx1, hx2⟩ := info_parts Tryz.infoAPut
  have hcv : IntKind.i64.wrap (n.toNat : Int) = (n.toNat : Int) := by rw [IntKind.wrap_i64]; omega
  have hlen := h.len
  have hsz := h.size
  have HC : Hid (CJ LP w0 ws lo wb c tt fp exs b T G P w ∧ BlkAt w wb (ep c :: fp :: sT :: sG :: sP :: exs) tt ∧ CR w lo T G P sT sG sP D ∧ Bytes w (some ⟨dg, 0, none⟩) bs ∧ bs.length = 512 ∧ ∃ cs fr, w.heap[dg]? = some (.cells cs 5 fr)) := ⟨h, hw, hr, hbs, hbl, htg⟩
  unfold u32v
  have hform : sP = .slice none 0 0 ∨ ∃ g cap, sP = .slice (some ⟨g, 0, none⟩) P.length cap := by
    rcases hr.p.2 with ⟨e, _⟩ | ⟨g, cap, _, e, _⟩
    · exact .inl e
    · exact .inr ⟨g, cap, e⟩
  clear hw hr h hbs hbl htg
  rcases hform with hs | ⟨gs, gc, hs⟩
  all_goals
    rw [hs] at d1
    go_enter Tryz.func64, Tryz.ntmps64
    go_wp2_with (at_builtin; refine Stop.out ?_)
    refine Stop.mk ?_
    refine wpList_append_own_at _ rfl _ _ 66 rfl lo 143 k0 (.agg #[.int .i64 0, .slice none 0 0]) 2 32 Tryz.underlying66 hk0 hx0 hx1 hx2 rfl (by decide) sP P.length (putC P D) (by rw [hs]; rfl) (HC.out.2.2.1.p.alloc _) ⟨w.heap.size, 0, none⟩ 1 1 [.int .i64 (n.toNat : Nat), .slice (some ⟨dg, 0, none⟩) 512 dc] rfl rfl (cell_two_new _ _ _ _) (by intro u hu; simp at hu; rcases hu with rfl | rfl <;> rfl) (by unfold maxLen; omega) (by omega) (by simp; omega) ?_
    intro v2 w2 hown2 hg2 _ hat2
    obtain ⟨hw2, ⟨g, cap, rfl⟩, H1, H2, _⟩ := CJ.puts hL htt HC.out.1.lp HC.out.1.fr HC.out.1.hlo HC.out.1.lo HC.out.2.1 HC.out.2.2.1 HC.out.1.len HC.out.2.2.2.1 HC.out.2.2.2.2.1 HC.out.2.2.2.2.2 hdl hown2 hg2 hat2
    have d3 : w2.cell? ⟨wb, 4, none⟩ = some sP := hw2.cell (i := 4) rfl
    rw [hs] at d3
    have f3 : w2.frozen? ⟨wb, 4, none⟩ = false := frozenOf hw2 _
    have HF := hide (And.intro H1 H2)
    clear hown2 hg2 hat2 hw2 H1 H2
    go_wp2
    go_end0
    exact ⟨rfl, HF.out.1, HF.out.2⟩

set_option maxRecDepth 8000 in
set_option maxHeartbeats 1000000 in
theorem get_J (hL : LPok LP w0 c nb V) (htt : okTT tt) (h : CJ LP w0 ws lo wb c tt fp exs b T G P w) (hb : b < 700000) (n : BitVec 32) (hn : n.toNat < nb) :
    Calls Tryz.prog 47 #[.pointer (some ⟨wb, 0, none⟩), u32v n] w fun e w' => ∃ g cap, e = .returned (.tuple #[.slice (some ⟨g, 0, none⟩) 512 cap, .int .i64 0]) ∧ (∀ w'', But (fun k => k = g) w' w'' → CJ LP w0 ws lo wb c tt fp exs (b + 1) T G P w'') ∧ But (Cmn w0 w) w w' ∧ w'.ownsRow w.heap.size 5 1 (.slice (some ⟨g, 0, none⟩) 512 cap) 512 ((V n.toNat).map u8v) ∧ (V n.toNat).length = 512 := by
  obtain ⟨sT, sG, sP, D, hw, hr⟩ := h.blk
  have hlt := n.isLt
  have d0 : w.cell? ⟨wb, 0, none⟩ = some (ep c) := hw.cell (i := 0) rfl
  have hcv : IntKind.i64.wrap (n.toNat : Int) = (n.toNat : Int) := by rw [IntKind.wrap_i64]; omega
  have cG := hL.get b w n.toNat h.lp (by omega) hn
  have HC := hide h
  unfold u32v
  clear hw hr h
  go_enter Tryz.func47, Tryz.ntmps47
  go_wp2_with (go_at_call 68; refine cG.mono ?_; rintro e w1 ⟨g, cap, rfl, h1, h2, h3⟩; clear cG)
  go_ret2
  refine ⟨g, cap, rfl, fun w'' hb => HC.out.cache htt ⟨hb.os.trans h2.os, hb.tape.trans h2.tape, hb.output.trans h2.output, Nat.le_trans h2.size hb.size, fun k hk hn => (hb.block k (Nat.lt_of_lt_of_le hk h2.size) (fun e => ?_)).trans (h2.block k hk hn)⟩ (h1 w'' hb), h2, h3⟩
  have h4 := (own_type h3.1 (k := g) rfl).1
  have : k = g := e
  omega
set_option maxRecDepth 8000 in
set_option maxHeartbeats 1000000 in
theorem getbad_J (hL : LPok LP w0 c nb V) (h : CJ LP w0 ws lo wb c tt fp exs b T G P w) (n : BitVec 32) (hn : nb ≤ n.toNat) :
    Calls Tryz.prog 47 #[.pointer (some ⟨wb, 0, none⟩), u32v n] w fun e w' => e = .returned (.tuple #[.slice none 0 0, .int .i64 22]) ∧ Below w.heap.size w w' := by
  obtain ⟨sT, sG, sP, D, hw, hr⟩ := h.blk
  have hlt := n.isLt
  have d0 : w.cell? ⟨wb, 0, none⟩ = some (ep c) := hw.cell (i := 0) rfl
  have hcv : IntKind.i64.wrap (n.toNat : Int) = (n.toNat : Int) := by rw [IntKind.wrap_i64]; omega
  have cG := hL.bad b w n.toNat h.lp hn hlt
  unfold u32v
  clear hw hr h
  go_enter Tryz.func47, Tryz.ntmps47
  go_wp2_with (go_at_call 68; refine Calls_on cG ?_; clear cG)
  go_ret2
  exact ⟨rfl, Below.refl _ _⟩

end
end Go.Proofs.YtebdgcoandfocaaGreatDoor

/-
  Package inode: take and find over a write in memory; the hands of a write.
-/
namespace Go.Proofs.YtebdgcoandfocaaGreatDoor
open Go.RowKit Go.Maps Go.Sort Go.Shelf

/-- A map of which k free numbers are taken, from the least on. -/
structure MR (U0 : Nat → Bool) (n k : Nat) (mf : Bm.MS) : Prop where
  nn : mf.n = n
  le : n ≤ 65536
  us : ∀ x, x < n → (Bm.used mf.ws x = true ↔ U0 x = true ∨ x ∈ (Ino.frees n U0).take k)
theorem MR.least {U0 : Nat → Bool} {n k r : Nat} {mf : Bm.MS} (h : MR U0 n k mf) (hr : (Ino.frees n U0)[k]? = some r) : Least mf r := by
  obtain ⟨h1, h2, h3, h4⟩ := Ino.frees_next hr
  refine ⟨by rw [h.nn]; exact h1, ?_, fun i hi => (h.us i (by omega)).2 (h4 i hi)⟩
  cases hu : Bm.used mf.ws r with
  | false => rfl
  | true =>
    rcases (h.us r h1).1 hu with e | e
    · rw [h2] at e; cases e
    · exact absurd e h3
theorem MR.step {U0 : Nat → Bool} {n k r : Nat} {mf : Bm.MS} (h : MR U0 n k mf) (hf : Bm.Fit mf.n mf.ws) (hr : (Ino.frees n U0)[k]? = some r) : MR U0 n (k + 1) (mf.turn r) := by
  have hl := h.least hr
  have hrn : r < n := by rw [← h.nn]; exact hl.1
  refine ⟨h.nn, h.le, fun x hx => ?_⟩
  show Bm.used (Bm.turned mf.ws r) x = true ↔ _
  rw [Bm.turned_used (by have h1 := hf.len; have h2 := hl.1; omega), List.take_add_one, hr]
  by_cases hxr : x = r
  · subst hxr
    rw [if_pos rfl, hl.2.1]
    simp
  · rw [if_neg hxr, h.us x hx]
    simp [hxr]

section
variable {LP : Nat → World → Prop} {w0 ws : World} {lo wb c nb : Nat} {V : Nat → By} {tt : TypeId} {exs : List Value} {b : Nat} {G : List Nat} {P : List (Nat × By)} {w : World}

theorem map_mb {w : World} {mf : Bm.MS} (h : Bm.MapAt w mf) : ∃ cs, w.heap[mf.b]? = some (.cells cs 61 (0, 0)) := by
  obtain ⟨cs, h1, _⟩ := h.row
  exact ⟨cs, h1⟩

set_option maxRecDepth 8000 in
set_option maxHeartbeats 1000000 in
theorem take_J (hL : LPok LP w0 c nb V) (htt : okTT tt) {U0 : Nat → Bool} {n k : Nat} {mf : Bm.MS} (h : CJ LP w0 ws lo wb c tt (.pointer (some ⟨mf.a, 0, none⟩)) exs b ((Ino.frees n U0).take k) G P w) (hb : b < 700000) (hM : MR U0 n k mf) (hm : Bm.MapAt w mf) (hmb : ws.heap.size ≤ mf.b) (ht : Bm.Tab64 w) :
    Calls Tryz.prog 63 #[.pointer (some ⟨wb, 0, none⟩)] w fun e w' => (∃ r, (Ino.frees n U0)[k]? = some r ∧ e = .returned (.tuple #[u32v (BitVec.ofNat 32 r), .int .i64 0]) ∧ CJ LP w0 ws lo wb c tt (.pointer (some ⟨mf.a, 0, none⟩)) exs (b + 1) ((Ino.frees n U0).take (k + 1)) G P w' ∧ Bm.MapAt w' (mf.turn r) ∧ But (fun j => CT tt w j ∨ j = mf.b) w w') ∨
      ((Ino.frees n U0)[k]? = none ∧ e = .returned (.tuple #[u32v 0, .int .i64 28]) ∧ CJ LP w0 ws lo wb c tt (.pointer (some ⟨mf.a, 0, none⟩)) exs (b + 1) ((Ino.frees n U0).take k) G P w' ∧ Bm.MapAt w' mf ∧ But (fun j => CT tt w j ∨ j = mf.b) w w') := by
  have ct := Bm.take_any mf w hm ht
  obtain ⟨sT0, sG0, sP0, D0, hw0, _⟩ := h.blk
  have d1 : w.cell? ⟨wb, 1, none⟩ = some (.pointer (some ⟨mf.a, 0, none⟩)) := hw0.cell (i := 1) rfl
  have hfor : ∀ w1, But (fun j => j = mf.b) w w1 → CJ LP w0 ws lo wb c tt (.pointer (some ⟨mf.a, 0, none⟩)) exs b ((Ino.frees n U0).take k) G P w1 := fun w1 hb1 => h.foreign hL hb1 (by
    rintro j rfl
    obtain ⟨cs, hc⟩ := map_mb hm
    exact ⟨hmb, cs, _, _, hc, by unfold foreignT; decide, by decide, by decide, htt.n.2.2.1.symm⟩)
  have hsz := h.size
  have hlen := h.len
  have HM := hide (And.intro hM hm)
  clear hw0 h hm ht
  cases hr : (Ino.frees n U0)[k]? with
  | none =>
    have hall := Ino.frees_none hr
    have ct' : Calls Tryz.prog 84 #[.pointer (some ⟨mf.a, 0, none⟩)] w fun e w' => e = .returned (.tuple #[.int .i64 0, .int .i64 28]) ∧ Bm.MapAt w' mf ∧ But (fun j => j = mf.b) w w' := ct.mono (by
      rintro e w1 ⟨m1, ⟨r, hfr, ho⟩, hm1, hb1⟩
      rcases ho with ⟨_, rfl, rfl⟩ | ⟨hlt, _, _⟩
      · exact ⟨rfl, hm1, only_but hb1⟩
      · have h1 := hfr.yes hlt
        have hrn : r < n := by rw [← hM.nn]; exact hlt
        rw [(hM.us r hrn).2 (hall r hrn)] at h1
        cases h1)
    clear ct hr hall
    go_enter Tryz.func63, Tryz.ntmps63
    go_wp2_with (go_at_call 84; refine ct'.mono ?_; rintro e w1 ⟨rfl, hm1, hb1⟩; clear ct')
    go_ret2
    have h1 := hfor w1 hb1
    exact .inr ⟨trivial, rfl, ⟨hL.more _ _ h1.lp, h1.fr, h1.hlo, h1.lo, h1.blk, by omega, by omega, by omega⟩, hm1, hb1.mono (fun _ _ e => .inr e)⟩
  | some r =>
    have hle := hM.least hr
    have hrn : r < 65536 := by have := hle.1; have := hM.le; have := hM.nn; omega
    have ct' : Calls Tryz.prog 84 #[.pointer (some ⟨mf.a, 0, none⟩)] w fun e w' => e = .returned (.tuple #[.int .i64 r, .int .i64 0]) ∧ Bm.MapAt w' (mf.turn r) ∧ But (fun j => j = mf.b) w w' := ct.mono (by
      rintro e w1 ⟨m1, ho, hm1, hb1⟩
      obtain ⟨rfl, rfl⟩ := take_least hle ho
      exact ⟨rfl, hm1, only_but hb1⟩)
    have hcv : IntKind.u32.wrap (r : Int) = (r : Int) := by rw [IntKind.wrap_u32]; omega
    have htk : (Ino.frees n U0).take (k + 1) = (Ino.frees n U0).take k ++ [r] := by rw [List.take_add_one, hr]; rfl
    have e32 : u32v (BitVec.ofNat 32 r) = .int .u32 (r : Int) := by unfold u32v; rw [BitVec.toNat_ofNat, Nat.mod_eq_of_lt (by omega)]
    refine (show Calls Tryz.prog 63 #[.pointer (some ⟨wb, 0, none⟩)] w (fun e w' => e = .returned (.tuple #[.int .u32 (r : Int), .int .i64 0]) ∧ CJ LP w0 ws lo wb c tt (.pointer (some ⟨mf.a, 0, none⟩)) exs (b + 1) ((Ino.frees n U0).take k ++ [r]) G P w' ∧ Bm.MapAt w' (mf.turn r) ∧ But (fun j => CT tt w j ∨ j = mf.b) w w') from ?_).mono (by
      rintro e w' ⟨rfl, h⟩
      rw [htk]
      exact .inl ⟨r, rfl, by rw [e32], h⟩)
    clear htk hM hr hle e32
    generalize (Ino.frees n U0).take k = T at hfor hlen HM ⊢
    obtain ⟨k0, hk0, hx0, hx1, hx2⟩ := info_parts Tryz.infoI
    clear ct
    go_enter Tryz.func63, Tryz.ntmps63
    go_wp2_with (go_at_call 84; refine ct'.mono ?_; rintro e w1 ⟨rfl, hm1, hb1⟩; clear ct'; refine Stop.out ?_)
    refine Stop.mk ?_
    have h1 := hfor w1 hb1
    obtain ⟨sT, sG, sP, D, hw, hrr⟩ := h1.blk
    have d2 : w1.cell? ⟨wb, 2, none⟩ = some sT := hw.cell (i := 2) rfl
    have HC : Hid (CJ LP w0 ws lo wb c tt (.pointer (some ⟨mf.a, 0, none⟩)) exs b T G P w1 ∧ BlkAt w1 wb (ep c :: .pointer (some ⟨mf.a, 0, none⟩) :: sT :: sG :: sP :: exs) tt ∧ CR w1 lo T G P sT sG sP D ∧ Bm.MapAt w1 (mf.turn r) ∧ But (fun j => j = mf.b) w w1) := ⟨h1, hw, hrr, hm1, hb1⟩
    have hform : sT = .slice none 0 0 ∨ ∃ g cap, sT = .slice (some ⟨g, 0, none⟩) T.length cap := by
      rcases hrr.t.2 with ⟨e, _⟩ | ⟨g, cap, _, e, _⟩
      · exact .inl e
      · exact .inr ⟨g, cap, e⟩
    have hz1 := hb1.size
    have hmt : mf.b = (mf.turn r).b := rfl
    clear h1 hw hrr hm1 hb1 hfor d1
    rcases hform with hs | ⟨gs, gc, hs⟩
    all_goals
      rw [hs] at d2
      go_wp2_with (at_builtin; refine Stop.out ?_)
      refine Stop.mk ?_
      refine wpList_append_own_at _ rfl _ _ 65 rfl lo 3 k0 (.int .i64 0) 1 8 Tryz.underlying65 hk0 hx0 hx1 hx2 rfl (by decide) sT T.length (T.map i64n) (by rw [hs]; rfl) (HC.out.2.2.1.t.alloc _) ⟨w1.heap.size, 0, none⟩ 1 1 [i64n r] rfl rfl (cell_one_new _ _ _) (by intro u hu; rw [List.mem_singleton.1 hu]; rfl) (by unfold maxLen; omega) (by omega) (by simp; omega) ?_
      intro v2 w2 hown2 hg2 _ hat2
      obtain ⟨hw2, ⟨g, cap, rfl⟩, H1, H2, H3⟩ := CJ.took hL htt HC.out.1.lp HC.out.1.fr HC.out.1.hlo HC.out.1.lo HC.out.2.1 HC.out.2.2.1 HC.out.1.len hown2 hg2 hat2
      have d3 : w2.cell? ⟨wb, 2, none⟩ = some sT := hw2.cell (i := 2) rfl
      rw [hs] at d3
      have f3 : w2.frozen? ⟨wb, 2, none⟩ = false := frozenOf hw2 _
      have hmf : Bm.MapAt (w2.setCell ⟨wb, 2, none⟩ (.slice (some ⟨g, 0, none⟩) (T.length + 1) cap)) (mf.turn r) := by
        refine HC.out.2.2.2.1.keep (but_only H3) ?_ ?_
        · rintro (e | e)
          · exact map_a_ne HC.out.2.2.2.1 HC.out.2.1 htt.n.2.2.2.1 e.symm
          · obtain ⟨_, cs, hc⟩ := own_type HC.out.2.2.1.t e
            rw [HC.out.2.2.2.1.st] at hc
            simp only [Option.some.injEq, Obj.cells.injEq] at hc
            exact absurd hc.2.1 (by decide)
        · rintro (e | e)
          · exact map_b_ne HC.out.2.2.2.1 HC.out.2.1 htt.n.2.2.1 e.symm
          · obtain ⟨_, cs, hc⟩ := own_type HC.out.2.2.1.t e
            obtain ⟨cs', hc'⟩ := map_mb HC.out.2.2.2.1
            rw [hc'] at hc
            simp only [Option.some.injEq, Obj.cells.injEq] at hc
            exact absurd hc.2.1 (by decide)
      have hbt : But (fun j => CT tt w j ∨ j = mf.b) w (w2.setCell ⟨wb, 2, none⟩ (.slice (some ⟨g, 0, none⟩) (T.length + 1) cap)) := by
        have hb1 := HC.out.2.2.2.2
        refine ⟨H2.os.trans hb1.os, H2.tape.trans hb1.tape, H2.output.trans hb1.output, Nat.le_trans hb1.size H2.size, fun j hj hn => ?_⟩
        have e1 := hb1.block j hj (fun e => hn (.inr e))
        refine (H2.block j (Nat.lt_of_lt_of_le hj hb1.size) fun hc => hn (.inl fun cs t fr hh => ?_)).trans e1
        exact hc cs t fr (e1.trans hh)
      have HF := hide (And.intro H1 (And.intro hmf hbt))
      clear hown2 hg2 hat2 hw2 H1 H2 H3 hmf hbt
      go_wp2
      go_ret2
      exact ⟨rfl, HF.out⟩

end
end Go.Proofs.YtebdgcoandfocaaGreatDoor

/-
  Package inode: the hands of a write: find; a walk that plans a write.
-/
namespace Go.Proofs.YtebdgcoandfocaaGreatDoor
open Go.RowKit Go.Maps Go.Sort Go.Shelf

/-- What a walk has gathered: budget, how many numbers are taken, those given, puts, spots. -/
structure WS where
  b : Nat
  k : Nat
  G : List Nat
  P : List (Nat × By)
  X : List (Nat × BitVec 32 × Bool)
def tk (F : List Nat) (s : WS) : BitVec 32 × Int × WS := match F[s.k]? with
  | some r => (BitVec.ofNat 32 r, 0, { s with b := s.b + 1, k := s.k + 1 })
  | none => (0, 28, { s with b := s.b + 1 })
def wOps (F : List Nat) (nb : Nat) (V : Nat → By) : Ino.Ops WS where
  take := tk F
  get s x := if x.toNat < nb then (tabOf (V x.toNat), 0, { s with b := s.b + 1 }) else (Ino.zT, 22, { s with b := s.b + 1 })
  give s x := { s with b := s.b + 1, G := s.G ++ [x.toNat] }
  put s x bs := { s with b := s.b + 1, P := s.P ++ [(x.toNat, bs)] }
def fnd (F : List Nat) : Ino.Stp WS := fun p x s =>
  if x = 0 then (if (tk F s).2.1 = 0 then ((tk F s).1, 0, { (tk F s).2.2 with b := (tk F s).2.2.b + 1, X := (tk F s).2.2.X ++ [(p, (tk F s).1, true)] }) else (0, (tk F s).2))
  else (x, 0, { s with b := s.b + 1, X := s.X ++ [(p, x, false)] })
theorem tk_b (F : List Nat) (s : WS) : (tk F s).2.2.b = s.b + 1 := by unfold tk; split <;> rfl
theorem w_cost (F : List Nat) (nb : Nat) (V : Nat → By) : Ino.Cost (wOps F nb V) (·.b) := by
  refine ⟨fun s => ?_, fun s n => ?_, fun s n => Nat.le_refl _, fun s n b => Nat.le_refl _⟩
  · show (tk F s).2.2.b ≤ _; rw [tk_b]; exact Nat.le_refl _
  · show (if n.toNat < nb then _ else _ : List (BitVec 32) × Int × WS).2.2.b ≤ _
    split <;> exact Nat.le_refl _
theorem w_len (F : List Nat) (nb : Nat) (V : Nat → By) (s : WS) (n : BitVec 32) : ((wOps F nb V).get s n).1.length = 64 ∨ ((wOps F nb V).get s n).2.1 ≠ 0 := by
  show (if n.toNat < nb then _ else _ : List (BitVec 32) × Int × WS).1.length = 64 ∨ _
  split
  · left; simp [tabOf]
  · left; rfl
theorem fnd_cost (F : List Nat) (p : Nat) (x : BitVec 32) (s : WS) : (fnd F p x s).2.2.b ≤ s.b + 4 := by
  have := tk_b F s
  unfold fnd
  split
  · split
    · show (tk F s).2.2.b + 1 ≤ _; omega
    · show (tk F s).2.2.b ≤ _; omega
  · show s.b + 1 ≤ _; omega

def spotC (X : List (Nat × BitVec 32 × Bool)) : List Value := X.flatMap fun x => [.int .i64 (x.1 : Nat), u32v x.2.1, .bool x.2.2]

section
variable {LP : Nat → World → Prop} {w0 ws : World} {wb c nb : Nat} {V : Nat → By} {U0 : Nat → Bool} {n at_ : Nat} {pb : Option Addr} {bl bc : Nat}

/-- A write in memory. -/
structure WJ (LP : Nat → World → Prop) (w0 ws : World) (wb c : Nat) (U0 : Nat → Bool) (n at_ : Nat) (pb : Option Addr) (bl bc : Nat) (s : WS) (w : World) : Prop where
  ex : ∃ (mf : Bm.MS) (sX : Value), CJ LP w0 ws ws.heap.size wb c 71 (.pointer (some ⟨mf.a, 0, none⟩)) [.int .i64 (at_ : Nat), .slice pb bl bc, sX] s.b ((Ino.frees n U0).take s.k) s.G s.P w ∧ Bm.MapAt w mf ∧ MR U0 n s.k mf ∧ ws.heap.size ≤ mf.a ∧ ws.heap.size ≤ mf.b ∧ w.ownsRow ws.heap.size 102 3 sX s.X.length (spotC s.X)
  xl : s.X.length ≤ s.b

theorem okW : okTT 71 := ⟨by unfold foreignT; decide, by decide⟩
theorem tab_ws {w : World} (ht : Bm.Tab64 ws) (h6 : 1 < w0.heap.size) (hf : But (Cmn w0 ws) ws w) : Bm.Tab64 w := ht.keep (but_only hf) (fun h => by have := h.1; omega)
theorem ct_spot {tt : TypeId} (htt : okTT tt) {w : World} {j : Nat} {cs : Array Value} {fr : Nat × Nat} (hj : w.heap[j]? = some (.cells cs 102 fr)) : ¬ CT tt w j := fun hc => by
  rcases hc _ _ _ hj with e | e | e | e | e | e
  all_goals first | exact absurd e (by decide) | exact htt.n.2.2.2.2.2.2.2.1 e.symm
theorem ct_u64 {tt : TypeId} (htt : okTT tt) {w : World} {j : Nat} {cs : Array Value} {fr : Nat × Nat} (hj : w.heap[j]? = some (.cells cs 61 fr)) : ¬ CT tt w j := fun hc => by
  rcases hc _ _ _ hj with e | e | e | e | e | e
  all_goals first | exact absurd e (by decide) | exact htt.n.2.2.1 e.symm
theorem ct_map {tt : TypeId} (htt : okTT tt) {w : World} {j : Nat} {cs : Array Value} {fr : Nat × Nat} (hj : w.heap[j]? = some (.cells cs 60 fr)) : ¬ CT tt w j := fun hc => by
  rcases hc _ _ _ hj with e | e | e | e | e | e
  all_goals first | exact absurd e (by decide) | exact htt.n.2.2.2.1 e.symm
theorem ct_bytes {tt : TypeId} (htt : okTT tt) {w : World} {j : Nat} {cs : Array Value} {fr : Nat × Nat} (hj : w.heap[j]? = some (.cells cs 5 fr)) : ¬ CT tt w j := fun hc => by
  rcases hc _ _ _ hj with e | e | e | e | e | e
  all_goals first | exact absurd e (by decide) | exact htt.f.2.2.2.2.2.2.1 e.symm
theorem map_ct {tt : TypeId} (htt : okTT tt) {w w' : World} {mf : Bm.MS} (hm : Bm.MapAt w mf) (hb : But (CT tt w) w w') : Bm.MapAt w' mf := by
  obtain ⟨cs, hc⟩ := map_mb hm
  exact hm.keep (but_only hb) (ct_map htt hm.st) (ct_u64 htt hc)
theorem spot_ct {tt : TypeId} (htt : okTT tt) {w w' : World} {base n : Nat} {v : Value} {xs : List Value} (h : w.ownsRow base 102 3 v n xs) (hb : But (CT tt w) w w') : w'.ownsRow base 102 3 v n xs := own_butI h hb (fun _ _ _ hk => ct_spot htt hk)

theorem WJ.step {s : WS} {w w' : World} {b' : Nat} {G' : List Nat} {P' : List (Nat × By)} (hb : But (CT 71 w) w w')
    {mf : Bm.MS} {sX : Value} (h2 : Bm.MapAt w mf) (h3 : MR U0 n s.k mf) (h4 : ws.heap.size ≤ mf.a) (h5 : ws.heap.size ≤ mf.b) (h6 : w.ownsRow ws.heap.size 102 3 sX s.X.length (spotC s.X)) (hx : s.X.length ≤ s.b) (hbb : s.b ≤ b')
    (h1 : CJ LP w0 ws ws.heap.size wb c 71 (.pointer (some ⟨mf.a, 0, none⟩)) [.int .i64 (at_ : Nat), .slice pb bl bc, sX] b' ((Ino.frees n U0).take s.k) G' P' w') : WJ LP w0 ws wb c U0 n at_ pb bl bc ⟨b', s.k, G', P', s.X⟩ w' :=
  ⟨⟨mf, sX, h1, map_ct okW h2 hb, h3, h4, h5, spot_ct okW h6 hb⟩, Nat.le_trans hx hbb⟩

set_option maxRecDepth 8000 in
set_option maxHeartbeats 1000000 in
/-- A spot more. -/
theorem find_app (hL : LPok LP w0 c nb V) {s : WS} {w : World} (h : WJ LP w0 ws wb c U0 n at_ pb bl bc s w) (p : Nat) (x : BitVec 32) (fr : Bool) {w2 : World} {v2 sX : Value} {o : Obj} {mf : Bm.MS} (h1 : CJ LP w0 ws ws.heap.size wb c 71 (.pointer (some ⟨mf.a, 0, none⟩)) [.int .i64 (at_ : Nat), .slice pb bl bc, sX] s.b ((Ino.frees n U0).take s.k) s.G s.P w) (h2 : Bm.MapAt w mf) (h3 : MR U0 n s.k mf) (h4 : ws.heap.size ≤ mf.a) (h5 : ws.heap.size ≤ mf.b) (h6 : w.ownsRow ws.heap.size 102 3 sX s.X.length (spotC s.X))
    (hown : w2.ownsRow ws.heap.size 102 3 v2 (s.X.length + 1) (spotC s.X ++ [.int .i64 (p : Nat), u32v x, .bool fr])) (hg : (w.alloc o).grownBy w2 sX.ownBlock) (hat : v2.ownBlock = sX.ownBlock ∨ v2.ownBlock = some (w.alloc o).heap.size) :
    (∃ cs, BlkAt w2 wb cs 71 ∧ cs[7]? = some sX) ∧ (∃ g cap, v2 = .slice (some ⟨g, 0, none⟩) (s.X.length + 1) cap) ∧ WJ LP w0 ws wb c U0 n at_ pb bl bc { s with b := s.b + 1, X := s.X ++ [(p, x, fr)] } (w2.setCell ⟨wb, 7, none⟩ v2) ∧ Kp none w (w2.setCell ⟨wb, 7, none⟩ v2) := by
  obtain ⟨sT, sG, sP, D, hw, hr⟩ := h1.blk
  obtain ⟨hw2, g, cap, rfl, hb2, ho2, hbut, hgo⟩ := app_field (i := 7) hw (by decide) h6 hown hg hat
  have hS : ∀ j cs t f, w.heap[j]? = some (.cells cs t f) → t ≠ 71 → t ≠ 102 → ¬ (j = wb ∨ sX.ownBlock = some j) := by
    rintro j cs t f hj ht1 ht2 (rfl | e)
    · rw [show w.heap[j]? = _ from hw] at hj
      simp only [Option.some.injEq, Obj.cells.injEq] at hj
      exact ht1 hj.2.1.symm
    · obtain ⟨_, cs2, hc⟩ := own_type h6 e
      rw [hc] at hj
      simp only [Option.some.injEq, Obj.cells.injEq] at hj
      exact ht2 hj.2.1.symm
  have hf := ch_foreign okW hw h6 (by unfold foreignT; decide)
  refine ⟨⟨_, hw2, rfl⟩, ⟨g, cap, rfl⟩, ⟨⟨mf, _, ⟨hL.more _ _ (hL.foreign _ _ _ _ h1.lp hbut hf), cmn_hi h1.fr hbut ?_, h1.hlo, h1.lo, ⟨sT, sG, sP, D, hb2, hr.but hbut (fun j cs t f hj ht => hS j cs t f hj ?_ ?_)⟩, ?_⟩, ?_, h3, h4, h5, ?_⟩, ?_⟩, hbut.size, fun j cs t f hj ht _ => (hbut.block j (Array.getElem?_eq_some_iff.1 hj).1 (hS j cs t f hj ?_ ?_)).trans hj⟩
  · rintro j (rfl | e)
    · exact .inl h1.lo
    · exact .inl (own_type h6 e).1
  · rcases ht with rfl | rfl | rfl <;> decide
  · rcases ht with rfl | rfl | rfl <;> decide
  · obtain ⟨l1, l2, l3⟩ := h1.len
    exact ⟨Nat.le_succ_of_le l1, Nat.le_succ_of_le l2, Nat.le_succ_of_le l3⟩
  · obtain ⟨cs, hc⟩ := map_mb h2
    exact h2.keep (but_only hbut) (hS _ _ _ _ h2.st (by decide) (by decide)) (hS _ _ _ _ hc (by decide) (by decide))
  · have e : spotC (s.X ++ [(p, x, fr)]) = spotC s.X ++ [.int .i64 (p : Nat), u32v x, .bool fr] := by unfold spotC; rw [List.flatMap_append]; rfl
    rw [e, List.length_append]; exact ho2
  · have := h.xl
    show (s.X ++ [(p, x, fr)]).length ≤ s.b + 1
    rw [List.length_append]; simp; omega
  · rcases ht with rfl | rfl | rfl <;> decide
  · rcases ht with rfl | rfl | rfl <;> decide

end
end Go.Proofs.YtebdgcoandfocaaGreatDoor

/-
  A walk that plans a write, as a function: a level of places. Pure: no program.
-/
namespace Go.Proofs.YtebdgcoandfocaaGreatDoor
open Go.RowKit

theorem fnd_has {F : List Nat} {p : Nat} {x : BitVec 32} {s : WS} (h : x ≠ 0) : fnd F p x s = (x, 0, { s with b := s.b + 1, X := s.X ++ [(p, x, false)] }) := by unfold fnd; rw [if_neg h]
theorem fnd_take {F : List Nat} {p r : Nat} {s : WS} (h : F[s.k]? = some r) : fnd F p 0 s = (BitVec.ofNat 32 r, 0, { s with b := s.b + 2, k := s.k + 1, X := s.X ++ [(p, BitVec.ofNat 32 r, true)] }) := by
  have e : tk F s = (BitVec.ofNat 32 r, 0, { s with b := s.b + 1, k := s.k + 1 }) := by unfold tk; rw [h]
  unfold fnd
  rw [if_pos rfl, e]
  rfl
theorem fnd_out {F : List Nat} {p : Nat} {s : WS} (h : F[s.k]? = none) : ∃ s', fnd F p 0 s = (0, 28, s') := by
  have e : tk F s = (0, 28, { s with b := s.b + 1 }) := by unfold tk; rw [h]
  refine ⟨{ s with b := s.b + 1 }, ?_⟩
  unfold fnd
  rw [if_pos rfl, e, if_neg (by simp)]

theorem ensure_else {fr : List (BitVec 32)} : ∀ {L : List Nat} {G G' : Ino.Gs} {k k' : Nat}, Ino.ensure fr G k L = some (G', k') → ∀ i, i ∉ L → G' i = G i
  | [], G, G', k, k', h, i, _ => by
    obtain ⟨rfl, rfl⟩ : G = G' ∧ k = k' := by simpa [Ino.ensure] using h
    rfl
  | j :: L, G, G', k, k', h, i, hi => by
    simp only [List.mem_cons, not_or] at hi
    by_cases hj : G j = 0
    · cases hr : fr[k]? with
      | none => rw [Ino.ensure_out hj hr] at h; cases h
      | some r =>
        rw [Ino.ensure_take hj hr] at h
        rw [ensure_else h i hi.2, Ino.upd_ne _ _ hi.1]
    · rw [Ino.ensure_has hj] at h
      exact ensure_else h i hi.2

/-- A level of places of which those from f up to t are visited. -/
theorem lev_ens (F : List Nat) (f t first : Nat) : ∀ (l : List (BitVec 32)) (i : Nat) (s : WS) (G : Ino.Gs), (∀ j n, l[j]? = some n → f ≤ first + i + j → first + i + j < t → n = G (first + i + j)) →
    (Ino.ensure (F.map (BitVec.ofNat 32)) G s.k (Ino.span (max f (first + i)) (min t (first + i + l.length))) = none → (Ino.lev (fnd F) f t first 1 l i s).2.1 = 28) ∧
    (∀ G' k', Ino.ensure (F.map (BitVec.ofNat 32)) G s.k (Ino.span (max f (first + i)) (min t (first + i + l.length))) = some (G', k') →
      ∃ l' b', Ino.lev (fnd F) f t first 1 l i s = (l', 0, ⟨b', k', s.G, s.P, s.X ++ (Ino.span (max f (first + i)) (min t (first + i + l.length))).map fun p => (p, G' p, decide (G p = 0))⟩) ∧ l'.length = l.length ∧ ∀ j n, l[j]? = some n → l'[j]? = some (if f ≤ first + i + j ∧ first + i + j < t then G' (first + i + j) else n))
  | [], i, s, G, _ => by
    have e : Ino.span (max f (first + i)) (min t (first + i + ([] : List (BitVec 32)).length)) = [] := Ino.span_nil (by simp; omega)
    rw [e, Ino.ensure_nil]
    refine ⟨(fun h => by cases h), fun G' k' h => ?_⟩
    obtain ⟨rfl, rfl⟩ : G = G' ∧ s.k = k' := by simpa using h
    exact ⟨[], s.b, by rw [Ino.lev_nil]; simp, rfl, fun j n h => by simp at h⟩
  | n :: l, i, s, G, hl => by
    have hlen : first + i + (n :: l).length = first + (i + 1) + l.length := by simp; omega
    have hl' : ∀ G2 : Ino.Gs, (∀ q, q ≠ first + i → G2 q = G q) → ∀ j m, l[j]? = some m → f ≤ first + (i + 1) + j → first + (i + 1) + j < t → m = G2 (first + (i + 1) + j) := by
      intro G2 hG j m hm h1 h2
      rw [hG _ (by omega)]
      have := hl (j + 1) m (by simpa using hm) (by omega) (by omega)
      rw [this]; congr 1; omega
    by_cases hc : first + i * 1 + 1 ≤ f ∨ t ≤ first + i * 1
    · have hsp : Ino.span (max f (first + i)) (min t (first + i + (n :: l).length)) = Ino.span (max f (first + (i + 1))) (min t (first + (i + 1) + l.length)) := by
        rw [hlen]
        rcases hc with h | h
        · rw [show max f (first + i) = max f (first + (i + 1)) by omega]
        · rw [Ino.span_nil (by omega), Ino.span_nil (by omega)]
      obtain ⟨h1, h2⟩ := lev_ens F f t first l (i + 1) s G (hl' G fun _ _ => rfl)
      rw [hsp, Ino.lev_skip hc]
      refine ⟨h1, fun G' k' h => ?_⟩
      obtain ⟨l', b', e, hll, hj⟩ := h2 G' k' h
      refine ⟨n :: l', b', by rw [e], by simp [hll], fun j m hm => ?_⟩
      rcases j with _ | j
      · simp only [List.getElem?_cons_zero, Option.some.injEq] at hm ⊢
        rw [if_neg (by omega)]; exact hm
      · simp only [List.getElem?_cons_succ] at hm ⊢
        rw [hj j m hm, show first + (i + 1) + j = first + i + (j + 1) by omega]
    · have hsp : Ino.span (max f (first + i)) (min t (first + i + (n :: l).length)) = (first + i) :: Ino.span (max f (first + (i + 1))) (min t (first + (i + 1) + l.length)) := by
        rw [hlen, show max f (first + i) = first + i by omega, Ino.span_cons (by omega), show max f (first + (i + 1)) = first + i + 1 by omega]
      have hn0 : n = G (first + i) := by
        have := hl 0 n rfl (by omega) (by omega)
        simpa using this
      have hpl : first + i * 1 = first + i := by omega
      have hnotin : first + i ∉ Ino.span (max f (first + (i + 1))) (min t (first + (i + 1) + l.length)) := fun h => by have := Ino.mem_span.1 h; omega
      rw [hsp]
      by_cases hz : G (first + i) = 0
      · have hn : n = 0 := hn0.trans hz
        subst hn
        cases hr : F[s.k]? with
        | none =>
          obtain ⟨s', hf⟩ := fnd_out (p := first + i) hr
          have hfr : (F.map (BitVec.ofNat 32))[s.k]? = none := by rw [List.getElem?_map, hr]; rfl
          rw [Ino.ensure_out hz hfr]
          refine ⟨fun _ => ?_, (fun G' k' h => by cases h)⟩
          rw [Ino.lev_fail (n' := 0) (er := 28) (s' := s') hc (by rw [hpl]; exact hf) (by decide)]
        | some r =>
          have hf := fnd_take (p := first + i) hr
          have hfr : (F.map (BitVec.ofNat 32))[s.k]? = some (BitVec.ofNat 32 r) := by rw [List.getElem?_map, hr]; rfl
          rw [Ino.ensure_take hz hfr, Ino.lev_step hc (by rw [hpl]; exact hf)]
          obtain ⟨h1, h2⟩ := lev_ens F f t first l (i + 1) { s with b := s.b + 2, k := s.k + 1, X := s.X ++ [(first + i, BitVec.ofNat 32 r, true)] } (Ino.upd G (first + i) (BitVec.ofNat 32 r)) (hl' _ fun q hq => Ino.upd_ne _ _ hq)
          refine ⟨h1, fun G' k' h => ?_⟩
          obtain ⟨l', b', e, hll, hj⟩ := h2 G' k' h
          have hG' : G' (first + i) = BitVec.ofNat 32 r := (ensure_else h _ hnotin).trans (Ino.upd_same _ _ _)
          refine ⟨BitVec.ofNat 32 r :: l', b', ?_, by simp [hll], fun j m hm => ?_⟩
          · rw [e]
            simp only [List.map_cons, List.append_assoc, List.cons_append, List.nil_append]
            rw [hG', hz]
            congr 5
            refine List.map_congr_left fun q hq => ?_
            have hne : q ≠ first + i := fun e => hnotin (e ▸ hq)
            rw [Ino.upd_ne _ _ hne]
          · rcases j with _ | j
            · simp only [List.getElem?_cons_zero, Option.some.injEq]
              rw [if_pos ⟨by omega, by omega⟩]; exact hG'.symm
            · simp only [List.getElem?_cons_succ] at hm ⊢
              rw [hj j m hm, show first + (i + 1) + j = first + i + (j + 1) by omega]
      · have hn : n ≠ 0 := hn0 ▸ hz
        have hf := fnd_has (F := F) (p := first + i) (s := s) hn
        rw [Ino.ensure_has hz, Ino.lev_step hc (by rw [hpl]; exact hf)]
        obtain ⟨h1, h2⟩ := lev_ens F f t first l (i + 1) { s with b := s.b + 1, X := s.X ++ [(first + i, n, false)] } G (hl' G fun _ _ => rfl)
        refine ⟨h1, fun G' k' h => ?_⟩
        obtain ⟨l', b', e, hll, hj⟩ := h2 G' k' h
        have hG' : G' (first + i) = n := (ensure_else h _ hnotin).trans hn0.symm
        refine ⟨n :: l', b', ?_, by simp [hll], fun j m hm => ?_⟩
        · rw [e]
          simp only [List.map_cons, List.append_assoc, List.cons_append, List.nil_append]
          rw [hG', decide_eq_false hz]
        · rcases j with _ | j
          · simp only [List.getElem?_cons_zero, Option.some.injEq]
            rw [if_pos ⟨by omega, by omega⟩]; exact hG'.symm
          · simp only [List.getElem?_cons_succ] at hm ⊢
            rw [hj j m hm, show first + (i + 1) + j = first + i + (j + 1) by omega]

end Go.Proofs.YtebdgcoandfocaaGreatDoor

/-
  A walk that plans a write, as a function: blocks of numbers. Pure: no program.
-/
namespace Go.Proofs.YtebdgcoandfocaaGreatDoor
open Go.RowKit

theorem ensure_nz {fr : List (BitVec 32)} (hf : ∀ x ∈ fr, x ≠ 0) : ∀ {L : List Nat} {G G' : Ino.Gs} {k k' : Nat}, Ino.ensure fr G k L = some (G', k') → (∀ i ∈ L, G' i ≠ 0) ∧ (∀ i, G i ≠ 0 → G' i = G i)
  | [], G, G', k, k', h => by
    obtain ⟨rfl, rfl⟩ : G = G' ∧ k = k' := by simpa [Ino.ensure] using h
    exact ⟨(fun i hi => by cases hi), fun _ _ => rfl⟩
  | j :: L, G, G', k, k', h => by
    by_cases hj : G j = 0
    · cases hr : fr[k]? with
      | none => rw [Ino.ensure_out hj hr] at h; cases h
      | some r =>
        rw [Ino.ensure_take hj hr] at h
        obtain ⟨h1, h2⟩ := ensure_nz hf h
        have hr0 := hf r (List.mem_of_getElem? hr)
        have hj' : G' j = r := by rw [h2 j (by rw [Ino.upd_same]; exact hr0), Ino.upd_same]
        refine ⟨fun i hi => ?_, fun i hi => ?_⟩
        · rcases List.mem_cons.1 hi with rfl | hi
          · rw [hj']; exact hr0
          · exact h1 i hi
        · have hne : i ≠ j := fun e => by subst e; exact hi hj
          rw [h2 i (by rw [Ino.upd_ne _ _ hne]; exact hi), Ino.upd_ne _ _ hne]
    · rw [Ino.ensure_has hj] at h
      obtain ⟨h1, h2⟩ := ensure_nz hf h
      refine ⟨fun i hi => ?_, h2⟩
      rcases List.mem_cons.1 hi with rfl | hi
      · rw [h2 i hj]; exact hj
      · exact h1 i hi

/-- What opening the block of index q gives. -/
theorem opn_ens (F : List Nat) (nb : Nat) (V : Nat → By) (G : Ino.Gs) (q : Nat) (T : List (BitVec 32)) (s : WS) (h0 : G q = 0 → T = Ino.zT) (h1 : G q ≠ 0 → (G q).toNat < nb ∧ tabOf (V (G q).toNat) = T) :
    (Ino.ensure (F.map (BitVec.ofNat 32)) G s.k [q] = none → ∃ s', Ino.opn (wOps F nb V) (G q) s = (0, Ino.zT, 28, s')) ∧
    (∀ G' k', Ino.ensure (F.map (BitVec.ofNat 32)) G s.k [q] = some (G', k') → ∃ b', Ino.opn (wOps F nb V) (G q) s = (G' q, T, 0, ⟨b', k', s.G, s.P, s.X⟩)) := by
  by_cases hz : G q = 0
  · rw [hz]
    cases hr : F[s.k]? with
    | none =>
      have hfr : (F.map (BitVec.ofNat 32))[s.k]? = none := by rw [List.getElem?_map, hr]; rfl
      have et : (wOps F nb V).take s = (0, 28, { s with b := s.b + 1 }) := by show tk F s = _; unfold tk; rw [hr]
      rw [Ino.ensure_out hz hfr]
      refine ⟨fun _ => ⟨{ s with b := s.b + 1 }, ?_⟩, (fun G' k' h => by cases h)⟩
      unfold Ino.opn; rw [if_pos rfl, et]
    | some r =>
      have hfr : (F.map (BitVec.ofNat 32))[s.k]? = some (BitVec.ofNat 32 r) := by rw [List.getElem?_map, hr]; rfl
      have et : (wOps F nb V).take s = (BitVec.ofNat 32 r, 0, { s with b := s.b + 1, k := s.k + 1 }) := by show tk F s = _; unfold tk; rw [hr]
      rw [Ino.ensure_take hz hfr, Ino.ensure_nil]
      refine ⟨(fun h => by cases h), fun G' k' h => ?_⟩
      obtain ⟨rfl, rfl⟩ : Ino.upd G q (BitVec.ofNat 32 r) = G' ∧ s.k + 1 = k' := by simpa using h
      refine ⟨s.b + 1, ?_⟩
      unfold Ino.opn; rw [if_pos rfl, et, Ino.upd_same, h0 hz]
  · obtain ⟨h2, h3⟩ := h1 hz
    have eg : (wOps F nb V).get s (G q) = (T, 0, { s with b := s.b + 1 }) := by
      show (if (G q).toNat < nb then _ else _ : List (BitVec 32) × Int × WS) = _
      rw [if_pos h2, h3]
    rw [Ino.ensure_has hz, Ino.ensure_nil]
    refine ⟨(fun h => by cases h), fun G' k' h => ?_⟩
    obtain ⟨rfl, rfl⟩ : G = G' ∧ s.k = k' := by simpa using h
    refine ⟨s.b + 1, ?_⟩
    unfold Ino.opn; rw [if_neg hz, eg, if_pos rfl]

/-- A block of numbers of places, of which some are visited. -/
theorem thr_ens (F : List Nat) (hF : ∀ x ∈ F.map (BitVec.ofNat 32), x ≠ 0) (nb : Nat) (V : Nat → By) (f t a q : Nat) (T : Ino.Gs → List (BitVec 32)) (G : Ino.Gs) (s : WS)
    (hq : ¬ (f ≤ q ∧ q < t)) (hq128 : ¬ q < 128) (hlen : ∀ G, (T G).length = 64) (hT : ∀ G j, f ≤ a + j → a + j < t → j < 64 → (T G)[j]? = some (G (a + j)))
    (hTo : ∀ G1 G2 : Ino.Gs, (∀ p, ¬ (f ≤ p ∧ p < t) → p < 128 → G1 p = G2 p) → ∀ j, ¬ (f ≤ a + j ∧ a + j < t) → (T G1)[j]? = (T G2)[j]?)
    (h0 : G q = 0 → T G = Ino.zT) (h1 : G q ≠ 0 → (G q).toNat < nb ∧ tabOf (V (G q).toNat) = T G) (hv : max f a < min t (a + 64)) :
    (Ino.ensure (F.map (BitVec.ofNat 32)) G s.k (q :: Ino.span (max f a) (min t (a + 64))) = none → (Ino.thr1 (wOps F nb V) true f t (fnd F) a (G q) s).2.1 = 28) ∧
    (∀ G' k', Ino.ensure (F.map (BitVec.ofNat 32)) G s.k (q :: Ino.span (max f a) (min t (a + 64))) = some (G', k') →
      ∃ b', Ino.thr1 (wOps F nb V) true f t (fnd F) a (G q) s = (G' q, 0, ⟨b', k', s.G, s.P ++ (if T G' = T G then [] else [((G' q).toNat, Ino.tabB (T G'))]), s.X ++ (Ino.span (max f a) (min t (a + 64))).map fun p => (p, G' p, decide (G p = 0))⟩)) := by
  obtain ⟨o1, o2⟩ := opn_ens F nb V G q (T G) s h0 h1
  have happ := Ino.ensure_app (F.map (BitVec.ofNat 32)) [q] (Ino.span (max f a) (min t (a + 64))) G s.k
  rw [List.singleton_append] at happ
  have hnh : ¬ (G q = 0 ∧ (true : Bool) = false) := fun h => by cases h.2
  have hqs : q ∉ Ino.span (max f a) (min t (a + 64)) := fun h => by have := Ino.mem_span.1 h; omega
  cases he : Ino.ensure (F.map (BitVec.ofNat 32)) G s.k [q] with
  | none =>
    rw [he] at happ
    rw [happ]
    refine ⟨fun _ => ?_, (fun G' k' h => by cases h)⟩
    obtain ⟨s', ho⟩ := o1 he
    show (Ino.thr _ true _ (G q) s).2.1 = 28
    rw [Ino.thr_open hnh ho (by decide)]
  | some x =>
    obtain ⟨G1, k1⟩ := x
    rw [he] at happ
    have happ : Ino.ensure (F.map (BitVec.ofNat 32)) G s.k (q :: Ino.span (max f a) (min t (a + 64))) = Ino.ensure (F.map (BitVec.ofNat 32)) G1 k1 (Ino.span (max f a) (min t (a + 64))) := happ
    obtain ⟨b1, ho⟩ := o2 G1 k1 he
    have hG1 : ∀ p, p ≠ q → G1 p = G p := fun p hp => ensure_else he p (by simpa using hp)
    obtain ⟨l1, l2⟩ := lev_ens F f t a (T G) 0 ⟨b1, k1, s.G, s.P, s.X⟩ G1 (by
      intro j m hm h2 h3
      have hj : j < 64 := by have := (List.getElem?_eq_some_iff.1 hm).1; rw [hlen] at this; exact this
      have := hT G j (by omega) (by omega) hj
      rw [hm] at this
      rw [Option.some.inj this, hG1 (a + 0 + j) (fun e => hq (by omega))]; rfl)
    rw [hlen, Nat.add_zero] at l1 l2
    rw [happ]
    refine ⟨fun h => ?_, fun G' k' h => ?_⟩
    · have := l1 h
      show (Ino.thr _ true _ (G q) s).2.1 = 28
      cases hx : Ino.lev (fnd F) f t a 1 (T G) 0 ⟨b1, k1, s.G, s.P, s.X⟩ with
      | mk l r =>
        obtain ⟨er, s2⟩ := r
        rw [hx] at this
        have this : er = 28 := this
        subst this
        rw [Ino.thr_level hnh ho hx (by decide)]
    · obtain ⟨l', b', hlv, hll, hj⟩ := l2 G' k' h
      obtain ⟨n1, n2⟩ := ensure_nz hF h
      have hG' : ∀ p, p ≠ q → p ∉ Ino.span (max f a) (min t (a + 64)) → G' p = G p := fun p hp hs => (ensure_else h p hs).trans (hG1 p hp)
      have hq' : G' q = G1 q := ensure_else h q hqs
      have hnow : l' = T G' := by
        apply List.ext_getElem?
        intro j
        by_cases hj64 : j < 64
        · obtain ⟨m, hm⟩ : ∃ m, (T G)[j]? = some m := ⟨_, List.getElem?_eq_getElem (by rw [hlen]; exact hj64)⟩
          rw [hj j m hm]
          by_cases hc : f ≤ a + j ∧ a + j < t
          · rw [if_pos hc, hT G' j hc.1 hc.2 hj64]
          · rw [if_neg hc, ← hm]
            refine (hTo G' G (fun p hp h2 => hG' p (fun e => hq128 (by omega)) (fun hs => ?_)) j hc).symm
            have := Ino.mem_span.1 hs
            omega
        · rw [List.getElem?_eq_none (by rw [hll]; omega), List.getElem?_eq_none (by rw [hlen]; omega)]
      subst hnow
      have hnz : T G' ≠ Ino.zT := by
        intro e
        have hm := n1 (max f a) (Ino.mem_span.2 ⟨Nat.le_refl _, hv⟩)
        have := hT G' (max f a - a) (by omega) (by omega) (by omega)
        rw [e, show a + (max f a - a) = max f a by omega] at this
        rw [Ino.zT, List.getElem?_replicate] at this
        split at this
        · exact hm (Option.some.inj this).symm
        · cases this
      have hd : ∀ p ∈ Ino.span (max f a) (min t (a + 64)), decide (G1 p = 0) = decide (G p = 0) := fun p hp => by rw [hG1 p (fun e => hqs (e ▸ hp))]
      have hmap : (Ino.span (max f a) (min t (a + 64))).map (fun p => (p, G' p, decide (G1 p = 0))) = (Ino.span (max f a) (min t (a + 64))).map fun p => (p, G' p, decide (G p = 0)) := List.map_congr_left fun p hp => by rw [hd p hp]
      rw [hmap] at hlv
      by_cases hw : T G' = T G
      · refine ⟨b', ?_⟩
        rw [if_pos hw, List.append_nil, hq']
        exact Ino.thr_same hnh ho hlv hnz hw
      · refine ⟨b' + 1, ?_⟩
        rw [if_neg hw, hq']
        have hput := Ino.thr_put (lv := fun l s => Ino.lev (fnd F) f t a 1 l 0 s) hnh ho hlv hnz hw
        exact hput

end Go.Proofs.YtebdgcoandfocaaGreatDoor
