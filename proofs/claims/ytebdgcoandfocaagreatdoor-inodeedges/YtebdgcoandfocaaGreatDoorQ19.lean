/-
  What the proof leans on, part 20.
-/
import Derived.Test.YtebdgcoandfocaaGreatDoorQ18
import Derived.Test.YtebdgcoandfocaaGreatDoorQ17
import Derived.Test.YtebdgcoandfocaaGreatDoorQ16

/-
  Package inode: a change is done.
-/
namespace Go.Proofs.YtebdgcoandfocaaGreatDoor
open Go.RowKit Go.Maps Go.Sort Go.Shelf

def setM (m : Bm.MS) (i : Nat) : Bm.MS := if Bm.used m.ws i = true then m else m.turn i
def giveM (m : Bm.MS) (i : Nat) : Bm.MS := if Bm.used m.ws i = true then m.turn i else m
theorem setM_abn (m : Bm.MS) (i : Nat) : (setM m i).a = m.a ∧ (setM m i).b = m.b ∧ (setM m i).n = m.n := by unfold setM; split <;> exact ⟨rfl, rfl, rfl⟩
theorem giveM_abn (m : Bm.MS) (i : Nat) : (giveM m i).a = m.a ∧ (giveM m i).b = m.b ∧ (giveM m i).n = m.n := by unfold giveM; split <;> exact ⟨rfl, rfl, rfl⟩
theorem sets_abn : ∀ (T : List Nat) (m : Bm.MS), (T.foldl setM m).a = m.a ∧ (T.foldl setM m).b = m.b ∧ (T.foldl setM m).n = m.n
  | [], m => ⟨rfl, rfl, rfl⟩
  | i :: T, m => by
    obtain ⟨h1, h2, h3⟩ := sets_abn T (setM m i)
    obtain ⟨h4, h5, h6⟩ := setM_abn m i
    exact ⟨h1.trans h4, h2.trans h5, h3.trans h6⟩
theorem gives_abn : ∀ (T : List Nat) (m : Bm.MS), (T.foldl giveM m).a = m.a ∧ (T.foldl giveM m).b = m.b ∧ (T.foldl giveM m).n = m.n
  | [], m => ⟨rfl, rfl, rfl⟩
  | i :: T, m => by
    obtain ⟨h1, h2, h3⟩ := gives_abn T (giveM m i)
    obtain ⟨h4, h5, h6⟩ := giveM_abn m i
    exact ⟨h1.trans h4, h2.trans h5, h3.trans h6⟩

theorem set_M (r : Nat) (m : Bm.MS) (w : World) (hm : Bm.MapAt w m) (hr : r < m.n) : Calls Tryz.prog 23 #[.pointer (some ⟨m.a, 0, none⟩), .int .i64 r] w fun e w' => (∃ v : Int, e = .returned (.int .i64 v)) ∧ Bm.MapAt w' (setM m r) ∧ But (fun k => k = m.b) w w' := by
  refine (Bm.set_in r m w hm hr).mono ?_
  rintro e w' ⟨m2, ho, hm2, hb2⟩
  rcases ho with ⟨h1, h, rfl⟩ | ⟨h1, h, rfl⟩
  · exact ⟨⟨_, h⟩, by unfold setM; rw [if_pos h1]; exact hm2, only_but hb2⟩
  · exact ⟨⟨_, h⟩, by unfold setM; rw [if_neg (by rw [h1]; simp)]; exact hm2, only_but hb2⟩
theorem give_M (r : Nat) (m : Bm.MS) (w : World) (hm : Bm.MapAt w m) (hr : r < m.n) : Calls Tryz.prog 66 #[.pointer (some ⟨m.a, 0, none⟩), .int .i64 r] w fun e w' => (∃ v : Int, e = .returned (.int .i64 v)) ∧ Bm.MapAt w' (giveM m r) ∧ But (fun k => k = m.b) w w' := by
  refine (Bm.give_in r m w hm hr).mono ?_
  rintro e w' ⟨m2, ho, hm2, hb2⟩
  rcases ho with ⟨h1, h, rfl⟩ | ⟨h1, h, rfl⟩
  · exact ⟨⟨_, h⟩, by unfold giveM; rw [if_neg (by rw [h1]; simp)]; exact hm2, only_but hb2⟩
  · exact ⟨⟨_, h⟩, by unfold giveM; rw [if_pos (by simpa using h1)]; exact hm2, only_but hb2⟩

theorem map_mbE {w : World} {mf : Bm.MS} (h : Bm.MapAt w mf) : ∃ cs, w.heap[mf.b]? = some (.cells cs 61 (0, 0)) := by
  obtain ⟨cs, h1, _⟩ := h.row
  exact ⟨cs, h1⟩
theorem row_form {w : World} {base : Nat} {e : TypeId} {size : Nat} {v : Value} {n : Nat} {xs : List Value} (h : w.ownsRow base e size v n xs) : ∃ q cp, v = .slice q n cp ∧ (n = 0 ∨ ∃ g, q = some ⟨g, 0, none⟩) := by
  rcases h.2 with ⟨rfl, rfl⟩ | ⟨g, cap, _, rfl, _⟩
  · exact ⟨none, 0, rfl, .inl rfl⟩
  · exact ⟨some ⟨g, 0, none⟩, cap, rfl, .inr ⟨g, rfl⟩⟩

set_option maxRecDepth 8000 in
set_option maxHeartbeats 1000000 in
theorem putAll_none (w : World) (wb cap : Nat) (q : Option Addr) (cs : List Value) (t : TypeId) (hw : BlkAt w wb cs t) (h4 : cs[4]? = some (.slice q 0 cap)) : Calls Tryz.prog 65 #[.pointer (some ⟨wb, 0, none⟩)] w fun e w' => e = .returned (.int .i64 0) ∧ Below w.heap.size w w' := by
  have d4 := hw.cell h4
  obtain ⟨cs', t', hw'⟩ : ∃ cs' t', Hid (BlkAt w wb cs' t' ∧ cs'[4]? = some (.slice q 0 cap)) := ⟨cs, t, hw, h4⟩
  have cU : Calls Tryz.prog 86 #[.pointer (some ⟨wb, 0, none⟩), .slice q 0 cap] w fun e w' => e = .returned (.tuple #[]) ∧ w' = w := by
    clear hw
    go_enter Tryz.func86, Tryz.ntmps86
    go_wp2_with fail
    go_loop [8] (fun ii => ii = .int .i64 0) (fun _ => 0)
    case atStart => rfl
    case round =>
      subst hrel
      go_wp2
      go_end0
      exact ⟨rfl, rfl⟩
  clear hw
  go_enter Tryz.func65, Tryz.ntmps65
  go_wp2_with fail
  go_loop [13] (fun ii => ii = .int .i64 0) (fun _ => 0)
  case atStart => rfl
  case round =>
    subst hrel
    go_wp2_with fail
    go_loop [42] (fun ii => ii = .int .i64 0) (fun _ => 0)
    case atStart => rfl
    case round =>
      subst hrel
      go_wp2_with (go_at_call 86; refine Calls_on cU ?_; clear cU)
      go_ret
      exact ⟨rfl, Below.refl _ _⟩

/-- All puts, be there some or none. -/
theorem putAll_any (w0 w : World) (wb c b lo : Nat) (cs : List Value) (t : TypeId) (vs : VS) (V : Nat → By) (P : List (Nat × By)) (D : List (Nat × Nat)) (sP : Value) (hw : BlkAt w wb cs t) (ht : ¬ cTag t) (h0 : cs[0]? = some (ep c)) (h4 : cs[4]? = some sP) (hP : PR w lo P sP D) (hC : LC w0 w c vs V (fun _ => 0) b) (hl : P.length ≤ 1000) (hb : b + 3000 ≤ 800000) (hlt : ∀ q ∈ P, q.1 < nbOf vs.d.n) :
    Calls Tryz.prog 65 #[.pointer (some ⟨wb, 0, none⟩)] w fun e w' => e = .returned (.int .i64 0) ∧ LC w0 w' c vs (Ino.putsV V P) (fun _ => 0) (b + P.length + P.length + P.length) ∧ But (Cmn w0 w) w w' := by
  obtain ⟨q, cp, rfl, hq⟩ := row_form hP.p
  rcases hq with h | ⟨g, rfl⟩
  · have hn : P = [] := List.eq_nil_of_length_eq_zero h
    subst hn
    refine (putAll_none w wb cp q cs t hw h4).mono ?_
    rintro e w' ⟨rfl, hb'⟩
    exact ⟨rfl, hC.below hb', But.of_below hb'⟩
  · exact putAll_L w0 w wb c g cp b lo cs t vs V P D hw ht h0 h4 hP hC hl hb hlt

set_option maxRecDepth 8000 in
set_option maxHeartbeats 4000000 in
theorem do_L (w0 w : World) (wb c b lo : Nat) (fp : Value) (exs : List Value) (tt : TypeId) (htt : okTT tt) (vs : VS) (V : Nat → By) (T G : List Nat) (P : List (Nat × By)) (D : List (Nat × Nat)) (sT sG sP : Value) (m : Bm.MS) (hw : BlkAt w wb (ep c :: fp :: sT :: sG :: sP :: exs) tt) (hr : CR w lo T G P sT sG sP D) (hC : LC w0 w c vs V (fun _ => 0) b) (hl : P.length ≤ 1000 ∧ T.length ≤ 1000 ∧ G.length ≤ 1000) (hb : b + 3000 ≤ 800000) (hlt : ∀ q ∈ P, q.1 < nbOf vs.d.n) (hm : Bm.MapAt w m) (hT : ∀ i ∈ T, i < m.n) (hG : ∀ i ∈ G, i < m.n) :
    Calls Tryz.prog 43 #[.pointer (some ⟨wb, 0, none⟩), .pointer (some ⟨m.a, 0, none⟩)] w fun e w' => e = .returned (.int .i64 0) ∧ LC w0 w' c vs (Ino.putsV V P) (fun _ => 0) (b + P.length + P.length + P.length) ∧ Bm.MapAt w' (G.foldl giveM (T.foldl setM m)) ∧ But (fun k => Cmn w0 w k ∨ k = m.b) w w' := by
  have ht : ¬ cTag tt := cTag_not htt.f.1 htt.f.2.1 htt.f.2.2.1
  have cP := putAll_any w0 w wb c b lo _ tt vs V P D sP hw ht (by rfl) (by rfl) hr.pr hC hl.1 hb hlt
  obtain ⟨mcs, hmc⟩ := map_mbE hm
  have hmb : ∀ W, But (Cmn w0 w) w W → Bm.MapAt W m := fun W hW => hm.keep (but_only hW) (cmn_not hm.st (cTag_not (by decide) (by decide) (by decide))) (cmn_not hmc (cTag_not (by decide) (by decide) (by decide)))
  obtain ⟨qT, cT, rfl, hqT⟩ := row_form hr.t
  obtain ⟨qG, cG, rfl, hqG⟩ := row_form hr.g
  obtain ⟨LT, hLT⟩ : ∃ LT, T.length = LT := ⟨_, rfl⟩
  obtain ⟨LG, hLG⟩ : ∃ LG, G.length = LG := ⟨_, rfl⟩
  have HW := hide (⟨hw, hr, hT, hG, hLT, hLG, hmb⟩ : _ ∧ _ ∧ _ ∧ _ ∧ _ ∧ _ ∧ _)
  obtain ⟨l1, l2, l3⟩ := hl
  rw [hLT] at hqT l2
  rw [hLG] at hqG l3
  have d2 : ∀ W, But (fun k => Cmn w0 w k ∨ k = m.b) w W → W.cell? ⟨wb, 2, none⟩ = some (.slice qT LT cT) ∧ W.cell? ⟨wb, 3, none⟩ = some (.slice qG LG cG) ∧ BlkAt W wb (ep c :: fp :: .slice qT LT cT :: .slice qG LG cG :: sP :: exs) tt ∧ (∀ (k : Nat) cs, W.heap[k]? = some (.cells cs 3 (0, 0)) → True) ∧ CR W lo T G P (.slice qT LT cT) (.slice qG LG cG) sP D := by
    intro W hW
    have hS : ∀ k cs t fr, w.heap[k]? = some (.cells cs t fr) → ¬ cTag t → t ≠ 61 → ¬ (Cmn w0 w k ∨ k = m.b) := by
      rintro k cs t fr hk h1 h2 (e | rfl)
      · exact cmn_not hk h1 e
      · rw [hmc] at hk
        simp only [Option.some.injEq, Obj.cells.injEq] at hk
        exact h2 hk.2.1.symm
    rw [hLT, hLG] at hw hr
    have hw' := hw.but hW (hS _ _ _ _ hw ht htt.n.2.2.1)
    refine ⟨hw'.cell (i := 2) rfl, hw'.cell (i := 3) rfl, hw', fun _ _ _ => trivial, hr.but hW (fun k cs t fr hk e => ?_)⟩
    rcases e with rfl | rfl | rfl
    · exact hS _ _ _ _ hk (cTag_not (by decide) (by decide) (by decide)) (by decide)
    · exact hS _ _ _ _ hk (cTag_not (by decide) (by decide) (by decide)) (by decide)
    · exact hS _ _ _ _ hk (cTag_not (by decide) (by decide) (by decide)) (by decide)
  have HD := hide d2
  clear hw hr hC hm hT hG hLT hLG hmb hmc d2 hlt
  go_enter Tryz.func43, Tryz.ntmps43
  go_wp2_with (go_at_call 65; refine cP.mono ?_; rintro e w1 ⟨rfl, hC1, hb1⟩; clear cP; refine Stop.out ?_)
  refine Stop.mk ?_
  have hb1' : But (fun k => Cmn w0 w k ∨ k = m.b) w w1 := hb1.mono (fun _ _ h => .inl h)
  obtain ⟨d2, _⟩ := HD.out w1 hb1'
  have H1 := hide (⟨hC1, hb1', HW.out.2.2.2.2.2.2 w1 hb1⟩ : _ ∧ _ ∧ _)
  clear hC1 hb1 hb1'
  go_wp2_with fail
  go_loopw [20] (fun ii wr => ∃ i : Nat, i ≤ LT ∧ ii = .int .i64 i ∧ Hid (LC w0 wr c vs (Ino.putsV V P) (fun _ => 0) (b + P.length + P.length + P.length) ∧ But (fun k => Cmn w0 w k ∨ k = m.b) w wr ∧ Bm.MapAt wr ((T.take i).foldl setM m))) (fun ii _ => LT - (intOf ii).toNat)
  case atStart => exact ⟨0, Nat.zero_le _, rfl, H1.out⟩
  case round =>
    obtain ⟨i, hi, rfl, HI⟩ := hrel
    by_cases hlt : i < LT
    · have hlti : (i : Int) < LT := by omega
      obtain ⟨g, rfl⟩ : ∃ g, qT = some ⟨g, 0, none⟩ := by
        rcases hqT with h | h
        · omega
        · exact h
      obtain ⟨x, hx⟩ : ∃ x, T[i]? = some x := ⟨_, List.getElem?_eq_getElem (by have := HW.out.2.2.2.2.1; omega)⟩
      have p0 : wr.cell? ⟨g, i, none⟩ = some (.int .i64 (x : Nat)) := by
        have h1 := (HD.out wr HI.out.2.1).2.2.2.2.t.cells (g := g) rfl i (i64n x) (by rw [List.getElem?_map, hx]; rfl)
        rwa [Addr.add_lit, Nat.zero_add] at h1
      obtain ⟨ea, eb, en⟩ := sets_abn (T.take i) m
      have cS := set_M x _ wr HI.out.2.2 (by rw [en]; exact HW.out.2.2.1 x (List.mem_of_getElem? hx))
      rw [ea, eb] at cS
      have htk : (T.take (i + 1)).foldl setM m = setM ((T.take i).foldl setM m) x := by rw [List.take_add_one, hx, List.foldl_append]; rfl
      rw [← htk] at cS
      have hfor : ∀ W, But (fun k => k = m.b) wr W → LC w0 W c vs (Ino.putsV V P) (fun _ => 0) (b + P.length + P.length + P.length) := fun W hW => HI.out.1.foreign hW (by
        rintro k rfl
        obtain ⟨cs, hc⟩ := map_mbE HI.out.2.2
        rw [eb] at hc
        exact ⟨cs, _, _, hc, by unfold foreignT; decide⟩)
      have HI2 := hide (And.intro hfor HI.out.2.1)
      clear htk hx ea eb en hfor HI d2
      go_wp2_with (go_at_call 23; refine cS.mono ?_; rintro e w2 ⟨⟨v, rfl⟩, hm2, hb2⟩; clear cS; have H2 := hide (⟨HI2.out.1 w2 hb2, HI2.out.2.trans (hb2.mono (fun _ _ h => .inr h)), hm2⟩ : _ ∧ _ ∧ _); clear hm2 hb2)
      exact ⟨⟨i + 1, by omega, by go_num, H2.out⟩, by simp [intOf]; omega⟩
    · obtain rfl : i = LT := by omega
      have H2 : Hid (LC w0 wr c vs (Ino.putsV V P) (fun _ => 0) (b + P.length + P.length + P.length) ∧ But (fun k => Cmn w0 w k ∨ k = m.b) w wr ∧ Bm.MapAt wr (T.foldl setM m)) := by
        refine ⟨HI.out.1, HI.out.2.1, ?_⟩
        have h1 := HI.out.2.2
        rw [List.take_of_length_le (by rw [HW.out.2.2.2.2.1]; exact Nat.le_refl _)] at h1
        exact h1
      obtain ⟨_, d3, _⟩ := HD.out wr HI.out.2.1
      clear HI d2
      obtain ⟨wa, rfl⟩ : ∃ wa, wa = wr := ⟨_, rfl⟩
      go_wp2_with fail
      go_loopw [33] (fun ii wr => ∃ j : Nat, j ≤ LG ∧ ii = .int .i64 j ∧ Hid (LC w0 wr c vs (Ino.putsV V P) (fun _ => 0) (b + P.length + P.length + P.length) ∧ But (fun k => Cmn w0 w k ∨ k = m.b) w wr ∧ Bm.MapAt wr ((G.take j).foldl giveM (T.foldl setM m)))) (fun ii _ => LG - (intOf ii).toNat)
      case atStart => exact ⟨0, Nat.zero_le _, rfl, H2.out⟩
      case round =>
        obtain ⟨j, hi, rfl, HI⟩ := hrel
        by_cases hlt : j < LG
        · have hlti : (j : Int) < LG := by omega
          obtain ⟨g, rfl⟩ : ∃ g, qG = some ⟨g, 0, none⟩ := by
            rcases hqG with h | h
            · omega
            · exact h
          obtain ⟨x, hx⟩ : ∃ x, G[j]? = some x := ⟨_, List.getElem?_eq_getElem (by have := HW.out.2.2.2.2.2.1; omega)⟩
          have p0 : wr.cell? ⟨g, j, none⟩ = some (.int .i64 (x : Nat)) := by
            have h1 := (HD.out wr HI.out.2.1).2.2.2.2.g.cells (g := g) rfl j (i64n x) (by rw [List.getElem?_map, hx]; rfl)
            rwa [Addr.add_lit, Nat.zero_add] at h1
          obtain ⟨ea, eb, en⟩ := (by obtain ⟨h1, h2, h3⟩ := gives_abn (G.take j) (T.foldl setM m); obtain ⟨h4, h5, h6⟩ := sets_abn T m; exact ⟨h1.trans h4, h2.trans h5, h3.trans h6⟩ : ((G.take j).foldl giveM (T.foldl setM m)).a = m.a ∧ ((G.take j).foldl giveM (T.foldl setM m)).b = m.b ∧ ((G.take j).foldl giveM (T.foldl setM m)).n = m.n)
          have cS := give_M x _ wr HI.out.2.2 (by rw [en]; exact HW.out.2.2.2.1 x (List.mem_of_getElem? hx))
          rw [ea, eb] at cS
          have htk : (G.take (j + 1)).foldl giveM (T.foldl setM m) = giveM ((G.take j).foldl giveM (T.foldl setM m)) x := by rw [List.take_add_one, hx, List.foldl_append]; rfl
          rw [← htk] at cS
          have hfor : ∀ W, But (fun k => k = m.b) wr W → LC w0 W c vs (Ino.putsV V P) (fun _ => 0) (b + P.length + P.length + P.length) := fun W hW => HI.out.1.foreign hW (by
            rintro k rfl
            obtain ⟨cs, hc⟩ := map_mbE HI.out.2.2
            rw [eb] at hc
            exact ⟨cs, _, _, hc, by unfold foreignT; decide⟩)
          have HI2 := hide (And.intro hfor HI.out.2.1)
          clear htk hx ea eb en hfor HI d3
          go_wp2_with (go_at_call 66; refine cS.mono ?_; rintro e w2 ⟨⟨v, rfl⟩, hm2, hb2⟩; clear cS; have H2 := hide (⟨HI2.out.1 w2 hb2, HI2.out.2.trans (hb2.mono (fun _ _ h => .inr h)), hm2⟩ : _ ∧ _ ∧ _); clear hm2 hb2)
          exact ⟨⟨j + 1, by omega, by go_num, H2.out⟩, by simp [intOf]; omega⟩
        · obtain rfl : j = LG := by omega
          have H3 : Hid (LC w0 wr c vs (Ino.putsV V P) (fun _ => 0) (b + P.length + P.length + P.length) ∧ Bm.MapAt wr (G.foldl giveM (T.foldl setM m)) ∧ But (fun k => Cmn w0 w k ∨ k = m.b) w wr) := by
            refine ⟨HI.out.1, ?_, HI.out.2.1⟩
            have h1 := HI.out.2.2
            rw [List.take_of_length_le (by rw [HW.out.2.2.2.2.2.1]; exact Nat.le_refl _)] at h1
            exact h1
          clear HI d3
          go_wp2
          go_ret
          exact ⟨rfl, H3.out⟩

end Go.Proofs.YtebdgcoandfocaaGreatDoor

/-
  Package inode: the hands of a write.
-/
namespace Go.Proofs.YtebdgcoandfocaaGreatDoor
open Go.RowKit Go.Maps Go.Sort Go.Shelf

section
variable {LP : Nat → World → Prop} {w0 ws : World} {wb c nb : Nat} {V : Nat → By} {U0 : Nat → Bool} {n at_ : Nat} {pb : Option Addr} {bl bc : Nat}

theorem kp_ct {tt : TypeId} (htt : okTT tt) {w w' : World} {mf : Bm.MS} (hm : Bm.MapAt w mf) (h : But (fun j => CT tt w j ∨ j = mf.b) w w') : Kp none w w' := by
  refine ⟨h.size, fun g cs t fr hg ht _ => (h.block g (Array.getElem?_eq_some_iff.1 hg).1 fun hc => ?_).trans hg⟩
  have hn := htt.n
  rcases hc with hc | rfl
  · rcases ht with rfl | rfl | rfl <;> rcases hc _ _ _ hg with e | e | e | e | e | e
    all_goals first | exact absurd e (by decide) | exact hn.2.2.2.2.1 e.symm | exact hn.2.2.2.2.2.1 e.symm | exact hn.2.2.2.2.2.2.1 e.symm
  · obtain ⟨cs', hc⟩ := map_mb hm
    rw [hc] at hg
    simp only [Option.some.injEq, Obj.cells.injEq] at hg
    rcases ht with e | e | e
    all_goals rw [e] at hg; exact absurd hg.2.1 (by decide)

theorem takeW (hL : LPok LP w0 c nb V) (ht : Bm.Tab64 ws) (h6 : 1 < w0.heap.size) {s : WS} {w : World} (h : WJ LP w0 ws wb c U0 n at_ pb bl bc s w) (hb : s.b < 700000) :
    Calls Tryz.prog 63 #[.pointer (some ⟨wb, 0, none⟩)] w fun e w' => e = .returned (.tuple #[u32v (tk (Ino.frees n U0) s).1, .int .i64 (tk (Ino.frees n U0) s).2.1]) ∧ WJ LP w0 ws wb c U0 n at_ pb bl bc (tk (Ino.frees n U0) s).2.2 w' ∧ Kp none w w' := by
  obtain ⟨mf, sX, h1, h2, h3, h4, h5, h7⟩ := h.ex
  have hxl := h.xl
  have hsp : ∀ w', But (fun j => CT 71 w j ∨ j = mf.b) w w' → w'.ownsRow ws.heap.size 102 3 sX s.X.length (spotC s.X) := fun w' hb => own_butI h7 hb (fun j cs _ hk hs => by
    rcases hs with hs | rfl
    · exact ct_spot okW hk hs
    · obtain ⟨cs', hc⟩ := map_mb h2
      rw [hc] at hk
      simp only [Option.some.injEq, Obj.cells.injEq] at hk
      exact absurd hk.2.1 (by decide))
  refine (take_J hL okW h1 hb h3 h2 h5 (tab_ws ht h6 h1.fr)).mono ?_
  rintro e w' (⟨r, hr, rfl, h8, h9, h10⟩ | ⟨hr, rfl, h8, h9, h10⟩)
  · have e1 : tk (Ino.frees n U0) s = (BitVec.ofNat 32 r, 0, { s with b := s.b + 1, k := s.k + 1 }) := by unfold tk; rw [hr]
    rw [e1]
    exact ⟨rfl, ⟨⟨mf.turn r, sX, h8, h9, h3.step h2.fit hr, h4, h5, hsp w' h10⟩, Nat.le_succ_of_le hxl⟩, kp_ct okW h2 h10⟩
  · have e1 : tk (Ino.frees n U0) s = (0, 28, { s with b := s.b + 1 }) := by unfold tk; rw [hr]
    rw [e1]
    exact ⟨rfl, ⟨⟨mf, sX, h8, h9, h3, h4, h5, hsp w' h10⟩, Nat.le_succ_of_le hxl⟩, kp_ct okW h2 h10⟩

theorem slice_form {w : World} {base : Nat} {e : TypeId} {size : Nat} {v : Value} {n : Nat} {xs : List Value} (h : w.ownsRow base e size v n xs) : v = .slice none 0 0 ∨ ∃ g cap, v = .slice (some ⟨g, 0, none⟩) n cap := by
  rcases h.2 with ⟨e, _⟩ | ⟨g, cap, _, e, _⟩
  · exact .inl e
  · exact .inr ⟨g, cap, e⟩

set_option maxRecDepth 8000 in
set_option maxHeartbeats 2000000 in
theorem find_has (hL : LPok LP w0 c nb V) {s : WS} {w : World} (h : WJ LP w0 ws wb c U0 n at_ pb bl bc s w) (hb : s.b < 700000) (p : Nat) (x : BitVec 32) (hx : x ≠ 0) :
    Calls Tryz.prog 41 #[.pointer (some ⟨wb, 0, none⟩), .int .i64 (p : Nat), u32v x] w fun e w' => e = .returned (.tuple #[u32v x, .int .i64 0]) ∧ WJ LP w0 ws wb c U0 n at_ pb bl bc { s with b := s.b + 1, X := s.X ++ [(p, x, false)] } w' ∧ Kp none w w' := by
  obtain ⟨mf, sX, h1, h2, h3, h4, h5, h7⟩ := h.ex
  obtain ⟨sT, sG, sP, D, hw, hr⟩ := h1.blk
  have d7 : w.cell? ⟨wb, 7, none⟩ = some sX := hw.cell (i := 7) rfl
  have hxl := h.xl
  have hsz := h1.fr.size
  have q0 : ¬ (x.toNat : Int) = 0 := fun h => hx (BitVec.eq_of_toNat_eq (by simpa using h))
  have q3 : ((x.toNat : Int) == 0) = false := by rw [beq_eq_false_iff_ne]; exact q0
  obtain ⟨k0, hk0, hx0, hx1, hx2⟩ := info_parts Tryz.infoSpot
  have HC := hide (⟨h, h1, h2, h3, h4, h5, h7⟩ : _ ∧ _ ∧ _ ∧ _ ∧ _ ∧ _ ∧ _)
  have hform := slice_form h7
  obtain ⟨L, hLn⟩ : ∃ L, s.X.length = L := ⟨_, rfl⟩
  rw [hLn] at hform hxl
  have HLn := hide hLn
  unfold u32v
  clear hw hr h h1 h2 h3 h4 h5 h7 hx q0 hLn
  rcases hform with hs | ⟨gs, gc, hs⟩
  all_goals
    rw [hs] at d7
    go_enter Tryz.func41, Tryz.ntmps41
    go_wp2_with (at_builtin; refine Stop.out ?_)
    refine Stop.mk ?_
    refine wpList_append_own_at _ rfl _ _ 69 rfl ws.heap.size 102 k0 (.agg #[.int .i64 0, .int .u32 0, .bool false]) 3 16 Tryz.underlying69 hk0 hx0 hx1 hx2 rfl (by decide) sX L (spotC s.X) (by rw [hs]; rfl) (by have := HC.out.2.2.2.2.2.2.alloc (.cells #[.int .i64 (p : Int), .int .u32 (x.toNat : Int), .bool false] 102); rw [HLn.out] at this; exact this) ⟨w.heap.size, 0, none⟩ 1 1 [.int .i64 (p : Nat), u32v x, .bool false] rfl rfl (cell_three_new _ _ _ _ _) (by intro u hu; simp at hu; rcases hu with rfl | rfl | rfl <;> rfl) (by unfold maxLen; omega) (by omega) (by simp; omega) ?_
    intro v2 w2 hown2 hg2 _ hat2
    rw [← HLn.out] at hown2
    obtain ⟨⟨cs, hw2, h7c⟩, ⟨g, cap, rfl⟩, H1, H2⟩ := find_app hL HC.out.1 p x false HC.out.2.1 HC.out.2.2.1 HC.out.2.2.2.1 HC.out.2.2.2.2.1 HC.out.2.2.2.2.2.1 HC.out.2.2.2.2.2.2 hown2 hg2 hat2
    have d3 : w2.cell? ⟨wb, 7, none⟩ = some sX := hw2.cell h7c
    rw [hs] at d3
    have f3 : w2.frozen? ⟨wb, 7, none⟩ = false := frozenOf hw2 _
    rw [HLn.out] at H1 H2
    have HF := hide (And.intro H1 H2)
    rw [HLn.out]
    clear hown2 hg2 hat2 hw2 h7c H1 H2
    go_wp2
    go_ret2
    exact ⟨rfl, HF.out.1, HF.out.2⟩

set_option maxRecDepth 8000 in
set_option maxHeartbeats 2000000 in
theorem find_J (hL : LPok LP w0 c nb V) (ht : Bm.Tab64 ws) (h6 : 1 < w0.heap.size) {s : WS} {w : World} (h : WJ LP w0 ws wb c U0 n at_ pb bl bc s w) (hb : s.b + 4 ≤ 700000) (p : Nat) (x : BitVec 32) :
    Calls Tryz.prog 41 #[.pointer (some ⟨wb, 0, none⟩), .int .i64 (p : Nat), u32v x] w fun e w' => e = .returned (.tuple #[u32v (fnd (Ino.frees n U0) p x s).1, .int .i64 (fnd (Ino.frees n U0) p x s).2.1]) ∧ WJ LP w0 ws wb c U0 n at_ pb bl bc (fnd (Ino.frees n U0) p x s).2.2 w' ∧ Kp none w w' := by
  by_cases hx : x = 0
  · subst hx
    have cT := takeW hL ht h6 h (by omega)
    have hkb := tk_b (Ino.frees n U0) s
    have e0 : fnd (Ino.frees n U0) p 0 s = if (tk (Ino.frees n U0) s).2.1 = 0 then ((tk (Ino.frees n U0) s).1, 0, { (tk (Ino.frees n U0) s).2.2 with b := (tk (Ino.frees n U0) s).2.2.b + 1, X := (tk (Ino.frees n U0) s).2.2.X ++ [(p, (tk (Ino.frees n U0) s).1, true)] }) else (0, (tk (Ino.frees n U0) s).2) := by unfold fnd; rw [if_pos rfl]
    generalize tk (Ino.frees n U0) s = T at cT e0 hkb
    obtain ⟨r, er, s1⟩ := T
    dsimp only at cT e0 hkb
    have hbs : s1.b = s.b + 1 := hkb
    clear h
    by_cases her : er = 0
    · subst her
      rw [if_pos rfl] at e0
      rw [e0]
      obtain ⟨k0, hk0, hx0, hx1, hx2⟩ := info_parts Tryz.infoSpot
      clear e0 hkb
      unfold u32v at cT ⊢
      go_enter Tryz.func41, Tryz.ntmps41
      go_wp2_with (go_at_call 63; refine cT.mono ?_; rintro e w1 ⟨rfl, h1, hK1⟩; clear cT; refine Stop.out ?_)
      refine Stop.mk ?_
      have hxl := h1.xl
      obtain ⟨mf, sX, hc1, h2, h3, h4, h5, h7⟩ := h1.ex
      obtain ⟨sT, sG, sP, D, hw, hr⟩ := hc1.blk
      have d7 : w1.cell? ⟨wb, 7, none⟩ = some sX := hw.cell (i := 7) rfl
      have hsz := hc1.fr.size
      have HC := hide (⟨h1, hc1, h2, h3, h4, h5, h7⟩ : _ ∧ _ ∧ _ ∧ _ ∧ _ ∧ _ ∧ _)
      have hform := slice_form h7
      obtain ⟨L, hLn⟩ : ∃ L, s1.X.length = L := ⟨_, rfl⟩
      rw [hLn] at hform hxl
      have HLn := hide hLn
      have HK1 := hide hK1
      clear hw hr h1 hc1 h2 h3 h4 h5 h7 hLn hK1
      rcases hform with hs | ⟨gs, gc, hs⟩
      all_goals
        rw [hs] at d7
        go_wp2_with (at_builtin; refine Stop.out ?_)
        refine Stop.mk ?_
        refine wpList_append_own_at _ rfl _ _ 69 rfl ws.heap.size 102 k0 (.agg #[.int .i64 0, .int .u32 0, .bool false]) 3 16 Tryz.underlying69 hk0 hx0 hx1 hx2 rfl (by decide) sX L (spotC s1.X) (by rw [hs]; rfl) (by have := HC.out.2.2.2.2.2.2.alloc (.cells #[.int .i64 (p : Int), .int .u32 (r.toNat : Int), .bool true] 102); rw [HLn.out] at this; exact this) ⟨w1.heap.size, 0, none⟩ 1 1 [.int .i64 (p : Nat), u32v r, .bool true] rfl rfl (cell_three_new _ _ _ _ _) (by intro u hu; simp at hu; rcases hu with rfl | rfl | rfl <;> rfl) (by unfold maxLen; omega) (by omega) (by simp; omega) ?_
        intro v2 w2 hown2 hg2 _ hat2
        rw [← HLn.out] at hown2
        obtain ⟨⟨cs, hw2, h7c⟩, ⟨g, cap, rfl⟩, H1, H2⟩ := find_app hL HC.out.1 p r true HC.out.2.1 HC.out.2.2.1 HC.out.2.2.2.1 HC.out.2.2.2.2.1 HC.out.2.2.2.2.2.1 HC.out.2.2.2.2.2.2 hown2 hg2 hat2
        have d3 : w2.cell? ⟨wb, 7, none⟩ = some sX := hw2.cell h7c
        rw [hs] at d3
        have f3 : w2.frozen? ⟨wb, 7, none⟩ = false := frozenOf hw2 _
        rw [HLn.out] at H1 H2
        have HF := hide (And.intro H1 (HK1.out.trans H2))
        rw [HLn.out]
        clear hown2 hg2 hat2 hw2 h7c H1 H2
        go_wp2
        go_ret2
        exact ⟨rfl, HF.out.1, HF.out.2⟩
    · rw [if_neg her] at e0
      rw [e0]
      have q1 : (er != 0) = true := by simp [her]
      have q2 : (er == 0) = false := by simp [her]
      clear e0 hkb
      unfold u32v at cT ⊢
      go_enter Tryz.func41, Tryz.ntmps41
      go_wp2_with (go_at_call 63; refine cT.mono ?_; rintro e w1 ⟨rfl, h1, hK1⟩; clear cT)
      go_ret2
      exact ⟨rfl, h1, hK1⟩
  · have e0 : fnd (Ino.frees n U0) p x s = (x, 0, { s with b := s.b + 1, X := s.X ++ [(p, x, false)] }) := by unfold fnd; rw [if_neg hx]
    rw [e0]
    exact find_has hL h (by omega) p x hx

theorem put_tag {w : World} {g : Nat} {bs : By} (h : w.heap[g]? = some (.cells (bs.map u8v).toArray 5 (0, 0))) : Bytes w (some ⟨g, 0, none⟩) bs := bytes_block h

/-- The hands of a write. -/
theorem handsW (hL : LPok LP w0 c nb V) (ht : Bm.Tab64 ws) (h6 : 1 < w0.heap.size) (f t : Nat) : Hands (wOps (Ino.frees n U0) nb V) (fnd (Ino.frees n U0)) wb 41 ws.heap.size f t (.pointer (some ⟨wb, 0, none⟩)) true (WJ LP w0 ws wb c U0 n at_ pb bl bc) (·.b) 700000 where
  cost := w_cost _ _ _
  cvis := fnd_cost _
  len := w_len _ _ _
  low s w h := by obtain ⟨_, _, h1, _⟩ := h.ex; exact h1.fr.size
  tab s w w' S h hb hS := by
    obtain ⟨mf, sX, h1, h2, h3, h4, h5, h7⟩ := h.ex
    have hns : ∀ j cs t fr, w.heap[j]? = some (.cells cs t fr) → ¬ tabT t → ¬ S j := fun j cs t fr hj hn hs => by
      obtain ⟨_, cs', t', fr', hj', ht'⟩ := hS j hs
      rw [hj] at hj'
      simp only [Option.some.injEq, Obj.cells.injEq] at hj'
      exact hn (hj'.2.1 ▸ ht')
    obtain ⟨cs, hc⟩ := map_mb h2
    refine ⟨⟨mf, sX, h1.foreign hL hb (fun j hj => ?_), h2.keep (but_only hb) (hns _ _ _ _ h2.st (by unfold tabT; decide)) (hns _ _ _ _ hc (by unfold tabT; decide)), h3, h4, h5, own_butI h7 hb (fun j cs _ hk => hns j cs _ _ hk (by unfold tabT; decide))⟩, h.xl⟩
    obtain ⟨hl, cs', t', fr', hj', ht'⟩ := hS j hj
    refine ⟨hl, cs', t', fr', hj', ?_⟩
    rcases ht' with rfl | rfl
    · unfold foreignT; decide
    · unfold foreignT; decide
  enter := enters_of Tryz.func41 (by kernel_rfl) rfl
  take s w h hm _ := takeW hL ht h6 h hm
  get s w x h hm hx := by
    obtain ⟨mf, sX, h1, h2, h3, h4, h5, h7⟩ := h.ex
    by_cases hn : x.toNat < nb
    · have e : (wOps (Ino.frees n U0) nb V).get s x = (tabOf (V x.toNat), 0, { s with b := s.b + 1 }) := if_pos hn
      rw [e]
      refine (get_J hL okW h1 hm x hn).mono ?_
      rintro e w' ⟨g, cap, rfl, h8, h9, h10, h11⟩
      have hct : But (CT 71 w) w w' := ct_cmn h9
      obtain ⟨g2, cap2, hg2, hg3, hg4⟩ := owns_bytes h10 (by omega)
      cases hg2
      refine ⟨WJ.step (b' := s.b + 1) hct h2 h3 h4 h5 h7 h.xl (Nat.le_succ _) (h8 w' (But.refl _ _)), ct_kp okW hct, .inl ⟨V x.toNat, g, cap, rfl, rfl, hg4, h11, ?_, rfl⟩⟩
      rcases h10.2 with ⟨e, _⟩ | ⟨g', cap', cur', e, _, _, hcap, _⟩
      · cases e
      · cases e; exact hcap
    · have e : (wOps (Ino.frees n U0) nb V).get s x = (Ino.zT, 22, { s with b := s.b + 1 }) := if_neg hn
      rw [e]
      refine (getbad_J hL h1 x (by omega)).mono ?_
      rintro e w' ⟨rfl, hb⟩
      have hct : But (CT 71 w) w w' := ct_below hb
      obtain ⟨l1, l2, l3⟩ := h1.len
      have h8 := h1.foreign hL (But.of_below (S := fun _ => False) hb) (fun _ h => h.elim)
      exact ⟨WJ.step (b' := s.b + 1) hct h2 h3 h4 h5 h7 h.xl (Nat.le_succ _) ⟨hL.more _ _ h8.lp, h8.fr, h8.hlo, h8.lo, h8.blk, Nat.le_succ_of_le l1, Nat.le_succ_of_le l2, Nat.le_succ_of_le l3⟩, ct_kp okW hct, .inr ⟨by simp, _, rfl⟩⟩
  give s w x h hm := by
    obtain ⟨mf, sX, h1, h2, h3, h4, h5, h7⟩ := h.ex
    refine (give_J hL okW h1 hm x).mono ?_
    rintro e w' ⟨rfl, h8, h9⟩
    exact ⟨rfl, WJ.step h9 h2 h3 h4 h5 h7 h.xl (Nat.le_succ _) h8, ct_kp okW h9⟩
  put s w x bs g h hm hl hg hlo := by
    obtain ⟨mf, sX, h1, h2, h3, h4, h5, h7⟩ := h.ex
    refine (put_J hL okW h1 hm x g 512 bs (put_tag hg) hl ⟨_, _, hg⟩ hlo).mono ?_
    rintro e w' ⟨rfl, h8, h9⟩
    exact ⟨rfl, WJ.step h9 h2 h3 h4 h5 h7 h.xl (Nat.le_succ _) h8, ct_kp okW h9⟩
  visit s w p x h hm _ _ := find_J hL ht h6 h hm p x

end
end Go.Proofs.YtebdgcoandfocaaGreatDoor

/-
  Package inode: a spot of a write is filled (three bytes at 700, the block is fresh).
-/
namespace Go.Proofs.YtebdgcoandfocaaGreatDoor
open Go.RowKit Go.Maps Go.Sort Go.Shelf

/-- A block of zeros but for three bytes at 188. -/
def abcB (x0 x1 x2 : BitVec 8) : By := List.replicate 188 0#8 ++ ([x0, x1, x2] ++ List.replicate 321 0#8)

theorem own_low_base {W : World} {base base' : Nat} {e : TypeId} {size : Nat} {v : Value} {n : Nat} {xs : List Value} (h : W.ownsRow base e size v n xs) (hb : base' ≤ base) : W.ownsRow base' e size v n xs := by
  refine ⟨h.1, ?_⟩
  rcases h.2 with h0 | ⟨g, cap, cur, e1, hg, r⟩
  · exact .inl h0
  · exact .inr ⟨g, cap, cur, e1, Nat.le_trans hb hg, r⟩

set_option maxRecDepth 8000 in
set_option maxHeartbeats 2000000 in
theorem fill_first (wb bg r : Nat) (cs : List Value) (x0 x1 x2 : BitVec 8) (w : World) (hw : BlkAt w wb cs 71) (h4 : cs[4]? = some (.slice none 0 0)) (h5 : cs[5]? = some (.int .i64 700)) (h6 : cs[6]? = some (.slice (some ⟨bg, 0, none⟩) 3 3)) (hr : r < 65536)
    (hb : w.heap[bg]? = some (.cells #[u8v x0, u8v x1, u8v x2] 5 (3, 4)) ∨ w.heap[bg]? = some (.cells #[u8v x0, u8v x1, u8v x2] 5 (0, 0))) :
    Calls Tryz.prog 42 #[.pointer (some ⟨wb, 0, none⟩), .agg #[.int .i64 1, .int .u32 (r : Nat), .bool true]] w fun e w' => e = .returned (.int .i64 0) ∧ ∃ g cap, BlkAt w' wb (cs.set 4 (.slice (some ⟨g, 0, none⟩) 1 cap)) 71 ∧ w'.ownsRow w.heap.size 143 2 (.slice (some ⟨g, 0, none⟩) 1 cap) 1 [.int .i64 (r : Nat), .slice (some ⟨w.heap.size + 1, 0, none⟩) 512 512] ∧
      w'.heap[w.heap.size + 1]? = some (.cells ((abcB x0 x1 x2).map u8v).toArray 5 (0, 0)) ∧ But (fun k => k = wb) w w' := by
  obtain ⟨w1, hw1⟩ : ∃ w1, w1 = w.alloc (.cells #[.int .i64 1, .int .u32 (r : Nat), .bool true] 102) := ⟨_, rfl⟩
  have hs1 : w1.heap.size = w.heap.size + 1 := by rw [hw1]; simp
  have hB1 : Below w.heap.size w w1 := by rw [hw1]; exact (Below.refl _ w).alloc (Nat.le_refl _) _
  have hx1 : BlkAt w1 w.heap.size [.int .i64 1, .int .u32 (r : Nat), .bool true] 102 := by rw [hw1]; exact heap_alloc_new w _
  have a0 := hx1.cell (i := 0) rfl
  have a1 := hx1.cell (i := 1) rfl
  have a2 := hx1.cell (i := 2) rfl
  have hwb1 := hw.below hB1
  have b5 := hwb1.cell h5
  have b6 := hwb1.cell h6
  go_enter Tryz.func42, Tryz.ntmps42
  go_wp2_with fail
  rw [← hw1]
  clear hw1
  obtain ⟨zs, hzs⟩ : ∃ zs, zs = List.replicate 512 (Value.int .u8 0) := ⟨_, rfl⟩
  have hmk : ∀ W : World, (Instr.makeSlice 30 (.int .i64 512) (.int .i64 512)).run Tryz.prog W = .ok (.slice (some ⟨W.heap.size, 0, none⟩) 512 512) (W.alloc (.cells zs.toArray 5)) := fun W => by rw [hzs]; exact imake W 512 (by omega)
  have HZ : Hid (zs = List.replicate 512 (Value.int .u8 0)) := hzs
  have hmx : (max 700 512 : Int) = 700 := by decide
  have hmn : (min 703 1024 : Int) = 703 := by decide
  have HW : Hid (BlkAt w wb cs 71 ∧ Below w.heap.size w w1 ∧ (w.heap[bg]? = some (.cells #[u8v x0, u8v x1, u8v x2] 5 (3, 4)) ∨ w.heap[bg]? = some (.cells #[u8v x0, u8v x1, u8v x2] 5 (0, 0)))) := ⟨hw, hB1, hb⟩
  have hbg : bg < w.heap.size := by rcases hb with h | h <;> exact (Array.getElem?_eq_some_iff.1 h).1
  clear hzs hw hB1 hb hwb1
  go_quiet (fail)
  go_wp2_with fail
  generalize hw2 : (w1.drewN nq).alloc (.cells zs.toArray 5) = w2
  have hB2 : Below w1.heap.size w1 w2 := by rw [← hw2]; exact (below_drewN (Below.refl _ w1) nq).alloc (Nat.le_refl _) _
  have hx2 : w2.heap[w.heap.size + 1]? = some (.cells zs.toArray 5 (0, 0)) := by rw [← hs1, ← hw2]; exact heap_alloc_new (w1.drewN nq) _
  have hB02 : Below w.heap.size w w2 := HW.out.2.1.trans (hB2.mono (by omega))
  clear hw2 a0 a1 a2 b5 b6
  have hx1' := hx1.below hB2
  have a1 := hx1'.cell (i := 1) rfl
  have hwb2 := HW.out.1.below hB02
  have b5 := hwb2.cell h5
  have b6 := hwb2.cell h6
  have hbg2 : ∀ j v, [u8v x0, u8v x1, u8v x2][j]? = some v → w2.drew.cell? ((⟨bg, 0, none⟩ : Addr).add j) = some v := by
    intro j v hj
    rw [Addr.add_lit, Nat.zero_add]
    have e : w2.heap[bg]? = w.heap[bg]? := hB02.block bg hbg
    show w2.cell? ⟨bg, j, none⟩ = some v
    rcases HW.out.2.2 with h | h
    · rw [cellOf (e.trans h) j, ← hj]; simp
    · rw [cellOf (e.trans h) j, ← hj]; simp
  have hzl : zs.toArray.size = 512 := by rw [HZ.out]; simp
  have hcp : ∀ ty, (Builtin.copy_ #[30, 30] ty #[.slice (some ⟨w.heap.size + 1, 188, none⟩) 324 324, .slice (some ⟨bg, 0, none⟩) 3 3]).run Tryz.prog w2.drew = .ok (.int .i64 3) (w2.drew.setRow (w.heap.size + 1) (zs.toArray.toList.take 188 ++ [u8v x0, u8v x1, u8v x2] ++ zs.toArray.toList.drop (188 + 3)).toArray) :=
    fun ty => run_copy_row (P := Tryz.prog) w2.drew 30 30 ty 5 (w.heap.size + 1) 188 324 324 ⟨bg, 0, none⟩ 3 3 zs.toArray 5 [u8v x0, u8v x1, u8v x2] Tryz.underlying30 Tryz.size5 hx2 rfl hbg2 (by rw [hzl]; exact Nat.le_of_ble_eq_true rfl) (by intro v hv; simp at hv; rcases hv with rfl | rfl | rfl <;> rfl)
  obtain ⟨w3, hw3⟩ : ∃ w3, w3 = w2.drew.setRow (w.heap.size + 1) (zs.toArray.toList.take 188 ++ [u8v x0, u8v x1, u8v x2] ++ zs.toArray.toList.drop (188 + 3)).toArray := ⟨_, rfl⟩
  rw [← hw3] at hcp
  have hx3 : w3.heap[w.heap.size + 1]? = some (.cells ((abcB x0 x1 x2).map u8v).toArray 5 (0, 0)) := by
    rw [hw3, setRow_heap w2.drew _ zs.toArray _ 5 (0, 0) hx2, HZ.out]
    simp [abcB, u8v]
  have hB3 : Below (w.heap.size + 1) w2 w3 := by rw [hw3]; exact below_setRow (Below.refl _ w2).drew (Nat.le_refl _) _
  have hB13 : Below w1.heap.size w1 w3 := hB2.trans (by rw [hs1]; exact hB3)
  have hx13 := hx1.below hB13
  have hB03 : Below w.heap.size w w3 := HW.out.2.1.trans (hB13.mono (by omega))
  have hwb3 := HW.out.1.below hB03
  have p1 := hx13.cell (i := 1) rfl
  have cP := iput_first wb r (w.heap.size + 1) 512 cs 71 w3.drew hwb3 h4 hr
  have H3 : Hid (BlkAt w3 wb cs 71 ∧ Below w.heap.size w w3 ∧ w3.heap[w.heap.size + 1]? = some (.cells ((abcB x0 x1 x2).map u8v).toArray 5 (0, 0))) := ⟨hwb3, hB03, hx3⟩
  clear hw3 hx3 hB3 hB13 hx13 hwb3 hB03 hbg2 hzl hx1' hwb2 hx2 hB2 hB02 hx1
  go_region
  go_wp2_with fail
  go_region_with (go_at_call 64; refine cP.mono ?_; rintro e w4 ⟨rfl, g, cap, y1, y2, y3⟩)
  all_goals
    have H4 : Hid (BlkAt w4 wb (cs.set 4 (.slice (some ⟨g, 0, none⟩) 1 cap)) 71 ∧ w4.ownsRow w.heap.size 143 2 (.slice (some ⟨g, 0, none⟩) 1 cap) 1 [.int .i64 (r : Nat), .slice (some ⟨w.heap.size + 1, 0, none⟩) 512 512] ∧ w4.heap[w.heap.size + 1]? = some (.cells ((abcB x0 x1 x2).map u8v).toArray 5 (0, 0)) ∧ But (fun k => k = wb) w w4) := by
      have hlt := H3.out.1.lt
      have hlw := HW.out.1.lt
      have hs3 := H3.out.2.1.size
      refine ⟨y1, own_low_base y2 (show w.heap.size ≤ w3.drew.heap.size from hs3), (y3.block _ (Array.getElem?_eq_some_iff.1 H3.out.2.2).1 (by omega)).trans H3.out.2.2, (But.of_below H3.out.2.1).trans (S := fun k => k = wb) ⟨y3.os, y3.tape, y3.output, y3.size, y3.block⟩⟩
    clear cP y1 y2 y3
    go_wp2
    go_ret
    exact ⟨rfl, g, cap, H4.out⟩

end Go.Proofs.YtebdgcoandfocaaGreatDoor

/-
  Package inode: a spot of a write is filled.
-/
namespace Go.Proofs.YtebdgcoandfocaaGreatDoor
open Go.RowKit Go.Maps Go.Sort Go.Shelf

/-- Bytes with others at a place. -/
def splB (base : By) (o : Nat) (d : By) : By := base.take o ++ d ++ base.drop (o + d.length)
theorem splB_length {base d : By} {o : Nat} (h : o + d.length ≤ base.length) : (splB base o d).length = base.length := by
  unfold splB; rw [List.length_append, List.length_append, List.length_take, List.length_drop]; omega

theorem copy_fill (W : World) (g cap lo bg q o ln sc : Nat) (base d : By) (hrow : W.ownsRow lo 5 1 (.slice (some ⟨g, 0, none⟩) 512 cap) 512 (base.map u8v)) (hd : d.length = ln) (hsrc : ∀ j x, d[j]? = some x → W.cell? ⟨bg, q + j, none⟩ = some (u8v x)) (ho : o + ln ≤ 512) :
    ∃ W', (∀ ty, (Builtin.copy_ #[30, 30] ty #[.slice (some ⟨g, o, none⟩) (512 - o) (cap - o), .slice (some ⟨bg, q, none⟩) ln sc]).run Tryz.prog W = .ok (.int .i64 (ln : Nat)) W') ∧ Bytes W' (some ⟨g, 0, none⟩) (splB base o d) ∧ (∃ cs fr, W'.heap[g]? = some (.cells cs 5 fr)) ∧ But (fun k => k = g) W W' := by
  have hbl : base.length = 512 := by simpa using hrow.1
  rcases hrow.2 with ⟨e, _⟩ | ⟨g', cap', cur, e, hlo, hblk, hcap, hmx, hcs, htk⟩
  · cases e
  cases e
  have hcur : 512 ≤ cur.size := by omega
  refine ⟨_, fun ty => (run_copy_row (P := Tryz.prog) W 30 30 ty 5 g o (512 - o) (cap - o) ⟨bg, q, none⟩ ln sc cur 5 (d.map u8v) Tryz.underlying30 Tryz.size5 hblk (by rw [List.length_map, hd]; exact (Nat.min_eq_left (by omega)).symm) (fun j v hj => ?_) (by rw [List.length_map]; omega) (u8v_one d)).trans (by rw [List.length_map, hd]; rfl), ?_, ?_, ?_⟩
  · rw [List.getElem?_map] at hj
    obtain ⟨x, hx, rfl⟩ := Option.map_eq_some_iff.1 hj
    rw [Addr.add_lit]
    exact hsrc j x hx
  · have hrow' := setRow_heap W g cur (cur.toList.take o ++ d.map u8v ++ cur.toList.drop (o + ln)).toArray 5 (0, 0) hblk
    intro _
    refine ⟨g, 0, rfl, fun i x hi => ?_⟩
    rw [Nat.zero_add, cellOf hrow' i, List.getElem?_toArray]
    have htake : cur.toList.take o = (base.take o).map u8v := by
      rw [List.map_take, ← htk, List.take_take]; congr 1; omega
    have hlen : (splB base o d).length = 512 := by rw [splB_length (by omega)]; exact hbl
    have hi5 : i < 512 := by have := (List.getElem?_eq_some_iff.1 hi).1; omega
    have e1 : (cur.toList.take o ++ d.map u8v ++ cur.toList.drop (o + ln)).take 512 = (splB base o d).map u8v := by
      unfold splB
      rw [htake, List.map_append, List.map_append, List.map_drop, ← htk, hd, List.take_append, List.drop_take]
      rw [List.take_of_length_le (by simp; omega)]
      congr 2
      simp; omega
    have e2 : (cur.toList.take o ++ d.map u8v ++ cur.toList.drop (o + ln))[i]? = ((cur.toList.take o ++ d.map u8v ++ cur.toList.drop (o + ln)).take 512)[i]? := by rw [List.getElem?_take, if_pos hi5]
    rw [e2, e1, List.getElem?_map, hi]; rfl
  · exact ⟨_, _, setRow_heap W g cur _ 5 (0, 0) hblk⟩
  · exact ⟨rfl, rfl, rfl, by simp, fun k _ hn => setRow_other W g k _ hn⟩

section
variable {LP : Nat → World → Prop} {w0 ws : World} {wb c nb : Nat} {V : Nat → By} {U0 : Nat → Bool} {n at_ : Nat} {pb : Option Addr} {bl bc bg bo : Nat}

theorem WJ.below {pb : Option Addr} (hL : LPok LP w0 c nb V) {s : WS} {w w' : World} (h : WJ LP w0 ws wb c U0 n at_ pb bl bc s w) (hb : Below w.heap.size w w') : WJ LP w0 ws wb c U0 n at_ pb bl bc s w' := by
  obtain ⟨mf, sX, h1, h2, h3, h4, h5, h7⟩ := h.ex
  exact ⟨⟨mf, sX, h1.foreign hL (But.of_below (S := fun _ => False) hb) (fun _ h => h.elim), h2.below hb, h3, h4, h5, own_butI h7 (But.of_below (S := fun _ => False) hb) (fun _ _ _ _ h => h)⟩, h.xl⟩

/-- What a spot is filled with. -/
def fillB (V : Nat → By) (at_ : Nat) (bs : By) (p : Nat) (x : BitVec 32) (fr : Bool) : By :=
  splB (if fr = true ∨ min (at_ + bs.length) (p * 512 + 512) - max at_ (p * 512) = 512 then Ino.z512 else V x.toNat) (max at_ (p * 512) - p * 512) ((bs.drop (max at_ (p * 512) - at_)).take (min (at_ + bs.length) (p * 512 + 512) - max at_ (p * 512)))
def filS (V : Nat → By) (at_ : Nat) (bs : By) (s : WS) (q : Nat × BitVec 32 × Bool) : WS := { s with b := s.b + (if q.2.2 = true ∨ min (at_ + bs.length) (q.1 * 512 + 512) - max at_ (q.1 * 512) = 512 then 1 else 2), P := s.P ++ [(q.2.1.toNat, fillB V at_ bs q.1 q.2.1 q.2.2)] }

set_option maxRecDepth 8000 in
set_option maxHeartbeats 4000000 in
theorem fill_new (hL : LPok LP w0 c nb V) {s : WS} {w : World} (h : WJ LP w0 ws wb c U0 n at_ (some ⟨bg, bo, none⟩) bl bc s w) (hb : s.b + 4 ≤ 700000) (bs : By) (hbs : Bytes w (some ⟨bg, bo, none⟩) bs) (hbl : bs.length = bl) (hb1 : 1 ≤ bl) (hbc : bl ≤ bc) (hmx : at_ + bl ≤ 65536) (p : Nat) (x : BitVec 32) (fr : Bool) (hp1 : at_ < p * 512 + 512) (hp2 : p * 512 < at_ + bl)
    (hfr : fr = true ∨ min (at_ + bl) (p * 512 + 512) - max at_ (p * 512) = 512) :
    Calls Tryz.prog 42 #[.pointer (some ⟨wb, 0, none⟩), .agg #[.int .i64 (p : Nat), u32v x, .bool fr]] w fun e w' => e = .returned (.int .i64 0) ∧ WJ LP w0 ws wb c U0 n at_ (some ⟨bg, bo, none⟩) bl bc (filS V at_ bs s (p, x, fr)) w' ∧ But (CT 71 w) w w' := by
  obtain ⟨B, hB⟩ : ∃ B, p * 512 = B := ⟨_, rfl⟩
  obtain ⟨f, hf⟩ : ∃ f, max at_ B = f := ⟨_, rfl⟩
  obtain ⟨t, ht⟩ : ∃ t, min (at_ + bl) (B + 512) = t := ⟨_, rfl⟩
  have hft : f < t := by omega
  have hfo : B ≤ f ∧ at_ ≤ f ∧ t ≤ at_ + bl ∧ t ≤ B + 512 := by omega
  obtain ⟨o, ho⟩ : ∃ o, f - B = o := ⟨_, rfl⟩
  obtain ⟨so, hso⟩ : ∃ so, f - at_ = so := ⟨_, rfl⟩
  obtain ⟨eo, heo⟩ : ∃ eo, t - at_ = eo := ⟨_, rfl⟩
  have eB : (p : Int) * 512 = (B : Nat) := by omega
  have ef : max (at_ : Int) (B : Int) = (f : Nat) := by omega
  have et : min ((at_ : Int) + (bl : Int)) ((B : Int) + 512) = (t : Nat) := by omega
  have eo1 : (f : Int) - (B : Int) = (o : Nat) := by omega
  have eso : (f : Int) - (at_ : Int) = (so : Nat) := by omega
  have eeo : (t : Int) - (at_ : Int) = (eo : Nat) := by omega
  have hfs : filS V at_ bs s (p, x, fr) = { s with b := s.b + 1, P := s.P ++ [(x.toNat, splB Ino.z512 o ((bs.drop so).take (eo - so)))] } := by
    rw [hB, hf, ht] at hfr
    unfold filS fillB
    dsimp only
    rw [hbl, hB, hf, ht, ho, hso, if_pos hfr, if_pos hfr, show t - f = eo - so by omega]
  rw [hfs]
  obtain ⟨mf, sX, hc, h2, h3, h4, h5, h7⟩ := h.ex
  obtain ⟨sT, sG, sP, D, hw, hr⟩ := hc.blk
  obtain ⟨w1, hw1⟩ : ∃ w1, w1 = w.alloc (.cells #[.int .i64 (p : Nat), u32v x, .bool fr] 102) := ⟨_, rfl⟩
  have hs1 : w1.heap.size = w.heap.size + 1 := by rw [hw1]; simp
  have hB1 : Below w.heap.size w w1 := by rw [hw1]; exact (Below.refl _ w).alloc (Nat.le_refl _) _
  have hx1 : BlkAt w1 w.heap.size [.int .i64 (p : Nat), u32v x, .bool fr] 102 := by rw [hw1]; exact heap_alloc_new w _
  have a0 := hx1.cell (i := 0) rfl
  have a1 := hx1.cell (i := 1) rfl
  have a2 := hx1.cell (i := 2) rfl
  have hwb1 := hw.below hB1
  have b5 := hwb1.cell (i := 5) rfl
  have b6 := hwb1.cell (i := 6) rfl
  unfold u32v at a1 hw1 ⊢
  have hfr' : fr = true ∨ (fr = false ∧ ¬ ((t : Int) - (f : Int) < 512)) := by
    cases fr with
    | true => exact .inl rfl
    | false =>
      rcases hfr with e | e
      · cases e
      · exact .inr ⟨rfl, by omega⟩
  have hwsz := hc.fr.size
  have HW := hide (⟨h, hbs, hw, hB1, hx1⟩ : _ ∧ _ ∧ _ ∧ _ ∧ _)
  clear h hc h2 h3 h4 h5 h7 hr hw hwb1 hbs hfs hB hf ht ho hso heo hfr
  obtain ⟨zs, hzs⟩ : ∃ zs, zs = List.replicate 512 (Value.int .u8 0) := ⟨_, rfl⟩
  have hmk : ∀ W : World, (Instr.makeSlice 30 (.int .i64 512) (.int .i64 512)).run Tryz.prog W = .ok (.slice (some ⟨W.heap.size, 0, none⟩) 512 512) (W.alloc (.cells zs.toArray 5)) := fun W => by rw [hzs]; exact imake W 512 (by omega)
  have HZ := hide hzs
  clear hzs
  rcases hfr' with hfr' | ⟨hfr', hnl⟩
  all_goals
    subst hfr'
    go_enter Tryz.func42, Tryz.ntmps42
    go_wp2_with fail
    rw [← hw1]
    clear hw1
    go_quiet (fail)
    go_wp2_with fail
  all_goals
    generalize hw2 : (w1.drewN nq).alloc (.cells zs.toArray 5) = w2
    have hB2 : Below w1.heap.size w1 w2 := by rw [← hw2]; exact (below_drewN (Below.refl _ w1) nq).alloc (Nat.le_refl _) _
    have hx2 : w2.heap[w.heap.size + 1]? = some (.cells zs.toArray 5 (0, 0)) := by rw [← hs1, ← hw2]; exact heap_alloc_new (w1.drewN nq) _
    have hB02 : Below w.heap.size w w2 := HW.out.2.2.2.1.trans (hB2.mono (by omega))
    clear hw2 a0 a1 a2 b5 b6
    have hx1' := HW.out.2.2.2.2.below hB2
    have a1 := hx1'.cell (i := 1) rfl
    have hwb2 := HW.out.2.2.1.below hB02
    have b5 := hwb2.cell (i := 5) rfl
    have b6 := hwb2.cell (i := 6) rfl
    have hbs2 := below_bytes hB02 HW.out.2.1
    have hz5 : zs = Ino.z512.map u8v := by rw [HZ.out, Ino.z512, List.map_replicate]; rfl
    have hown : w2.drew.ownsRow w.heap.size 5 1 (.slice (some ⟨w.heap.size + 1, 0, none⟩) 512 512) 512 (Ino.z512.map u8v) := by
      refine ⟨rfl, .inr ⟨_, _, zs.toArray, rfl, by omega, hx2, Nat.le_refl _, by unfold maxLen; omega, by rw [HZ.out]; simp, ?_⟩⟩
      rw [← hz5, HZ.out]; simp
    obtain ⟨w3, hcp, hby3, htg3, hb3⟩ := copy_fill w2.drew (w.heap.size + 1) 512 w.heap.size bg (bo + so) o (eo - so) (bc - so) Ino.z512 ((bs.drop so).take (eo - so)) hown (by rw [List.length_take, List.length_drop]; omega) (fun j x hj => by
      rw [List.getElem?_take] at hj
      split at hj
      · rw [List.getElem?_drop] at hj
        obtain ⟨s', o', e', hxx⟩ := hbs2 (by omega)
        cases e'
        show w2.cell? ⟨bg, bo + so + j, none⟩ = _
        rw [Nat.add_assoc]
        exact hxx _ _ hj
      · cases hj) (by omega)
    have ho5 : ¬ o = 512 := by omega
    have hoc : ¬ bc = so := by omega
    have hoc' : ¬ so = bc := by omega
    have hx13 := BlkAt.but (w := w2.drew) hx1' hb3 (show ¬ (w.heap.size = w.heap.size + 1) by omega)
    have HF := hide (⟨hby3, htg3, hb3, hB02, hx13⟩ : _ ∧ _ ∧ _ ∧ _ ∧ _)
    clear hx13
    clear hx2 hB2 hown hby3 htg3 hb3 hbs2 hwb2 hx1' hz5 hB02 hmk HZ
    go_region
    clear hcp a1 b5 b6
    have hBw3 : Below w.heap.size w w3.drew := (HF.out.2.2.2.1.drew.trans (HF.out.2.2.1.below (B := w.heap.size) HF.out.2.2.2.1.size (fun k hk => by have : k = w.heap.size + 1 := hk; omega))).drew
    have h3 := HW.out.1.below hL hBw3
    obtain ⟨mf, sX, hc3, h32, h33, h34, h35, h37⟩ := h3.ex
    have cP := put_J hL okW hc3 (by omega) x (w.heap.size + 1) 512 (splB Ino.z512 o ((bs.drop so).take (eo - so))) HF.out.1 (by rw [splB_length (by rw [List.length_take, List.length_drop]; show _ ≤ (List.replicate 512 0#8).length; rw [List.length_replicate]; omega)]; exact List.length_replicate) HF.out.2.1 (by have := hwsz; omega)
    have hx13 := HF.out.2.2.2.2
    have a1 := hx13.cell (i := 1) rfl
    have HK3 : Hid (But (CT 71 w) w w3.drew) := ct_below hBw3
    have H3 := hide (⟨h32, h33, h34, h35, h37, h3.xl⟩ : _ ∧ _ ∧ _ ∧ _ ∧ _ ∧ _)
    unfold u32v at a1 cP
    clear hBw3 h3 hc3 h32 h33 h34 h35 h37 hx13 HF
    go_wp2_with fail
    go_region_with (go_at_call 64; refine cP.mono ?_; rintro e w4 ⟨rfl, h8, h9⟩)
    all_goals
      have H4 := hide (WJ.step (LP := LP) (w0 := w0) (wb := wb) (c := c) (s := s) (at_ := at_) (pb := some ⟨bg, bo, none⟩) (bl := bl) (bc := bc) h9 H3.out.1 H3.out.2.1 H3.out.2.2.1 H3.out.2.2.2.1 H3.out.2.2.2.2.1 H3.out.2.2.2.2.2 (Nat.le_succ _) h8)
      have HK4 := hide (ct_trans HK3.out h9)
      clear cP h8 h9
      go_wp2
      go_ret
      exact ⟨rfl, H4.out, HK4.out⟩

end
end Go.Proofs.YtebdgcoandfocaaGreatDoor

/-
  What a write leaves of a file. Pure: no program.
-/
namespace Go.Proofs.YtebdgcoandfocaaGreatDoor
open Go.RowKit

theorem File.tabOk {n : Nat} {U : Nat → Bool} {V : Nat → By} {G : Ino.Gs} {sz : Nat} {W : Nat → BitVec 8} (h : Ino.File n U V G sz W) : TabOk n V G := by
  have h1 : (Ino.tab1 G).length = 64 := by simp [Ino.tab1]
  have h2 : (Ino.tab2 G).length = 64 := by simp [Ino.tab2]
  have h3 : (Ino.tabd G).length = 64 := by simp [Ino.tabd]
  refine ⟨fun e => ?_, fun e => ⟨h.lt _ e, by rw [h.t1 e, tabOf_tabB _ h1]⟩, fun e => ?_, fun e => ⟨h.lt _ e, by rw [h.t2 e, tabOf_tabB _ h2]⟩, fun e => ?_, fun e => ⟨h.lt _ e, by rw [h.td e, tabOf_tabB _ h3]⟩⟩
  · refine Ino.tab1_zero.2 fun p p1 p2 => Classical.byContradiction fun hn => ?_
    exact (h.one.2 ⟨p, p1, p2, hn⟩) e
  · refine Ino.tab2_zero.2 fun p p1 p2 => Classical.byContradiction fun hn => ?_
    exact (h.two.2 ⟨p, p1, p2, hn⟩) e
  · have : G 130 = 0 := Classical.byContradiction fun hn => (h.dbl.2 hn) e
    unfold Ino.tabd Ino.zT
    rw [this]; rfl

/-- The fills of a write, one after another. -/
theorem fils_all (V : Nat → By) (at_ : Nat) (bs : By) : ∀ (X : List (Nat × BitVec 32 × Bool)) (s : WS), ∃ b', X.foldl (filS V at_ bs) s = { s with b := b', P := s.P ++ X.map fun q => (q.2.1.toNat, fillB V at_ bs q.1 q.2.1 q.2.2) }
  | [], s => ⟨s.b, by simp⟩
  | q :: X, s => by
    obtain ⟨b', e⟩ := fils_all V at_ bs X (filS V at_ bs s q)
    refine ⟨b', ?_⟩
    rw [List.foldl_cons, e]
    unfold filS
    simp

/-- Numbers that are set. -/
theorem sets_used : ∀ (T : List Nat) (m : Bm.MS), (∀ i ∈ T, i < m.n) → Bm.Fit m.n m.ws → (∀ x, x < m.n → (Bm.used (T.foldl setM m).ws x = true ↔ Bm.used m.ws x = true ∨ x ∈ T)) ∧ (T.foldl setM m).n = m.n
  | [], m, _, _ => ⟨fun x _ => by simp, rfl⟩
  | i :: T, m, h, hf => by
    have hi := h i List.mem_cons_self
    have hs : (setM m i).n = m.n ∧ Bm.Fit (setM m i).n (setM m i).ws ∧ ∀ x, x < m.n → (Bm.used (setM m i).ws x = true ↔ Bm.used m.ws x = true ∨ x = i) := by
      unfold setM
      split
      · rename_i hu
        refine ⟨rfl, hf, fun x _ => ⟨.inl, ?_⟩⟩
        rintro (h | rfl)
        · exact h
        · exact hu
      · rename_i hu
        refine ⟨rfl, hf.turned i, fun x _ => ?_⟩
        show Bm.used (Bm.turned m.ws i) x = true ↔ _
        rw [Bm.turned_used (by have := hf.len; omega)]
        by_cases hx : x = i
        · subst hx
          rw [if_pos rfl]
          simp [hu]
        · rw [if_neg hx]
          simp [hx]
    obtain ⟨s1, s2, s3⟩ := hs
    obtain ⟨r1, r2⟩ := sets_used T (setM m i) (fun j hj => by rw [s1]; exact h j (List.mem_cons_of_mem _ hj)) s2
    rw [List.foldl_cons]
    refine ⟨fun x hx => ?_, r2.trans s1⟩
    rw [r1 x (by rw [s1]; exact hx), s3 x hx, List.mem_cons]
    constructor
    · rintro ((h | h) | h)
      · exact .inl h
      · exact .inr (.inl h)
      · exact .inr (.inr h)
    · rintro (h | h | h)
      · exact .inl (.inl h)
      · exact .inl (.inr h)
      · exact .inr h

theorem mem_wSpan {f t p : Nat} (ht : t ≤ 128) (hft : f < t) : p ∈ wSpan f t ↔ f ≤ p ∧ p < t := by
  unfold wSpan
  split <;> split
  all_goals simp only [List.mem_append, Ino.mem_span, List.not_mem_nil, or_false]
  all_goals constructor
  all_goals intro h
  all_goals omega
theorem wSpan_length {f t : Nat} (ht : t ≤ 128) : (wSpan f t).length ≤ 128 := by
  unfold wSpan
  split <;> split
  all_goals simp only [List.length_append, Ino.span_length, List.length_nil]
  all_goals omega

/-- What a spot is filled with is the file's block. -/
theorem fillB_slab {V : Nat → By} {at_ : Nat} {bs : By} {p : Nat} {x : BitVec 32} {fr : Bool} {W : Nat → BitVec 8} (hp1 : at_ < p * 512 + 512) (hp2 : p * 512 < at_ + bs.length) (hb1 : 1 ≤ bs.length) (hfr : fr = true → Ino.slab W p = Ino.z512) (hV : fr = false → V x.toNat = Ino.slab W p) :
    fillB V at_ bs p x fr = Ino.slab (Ino.wrote W at_ bs) p := by
  have hsl : (Ino.slab W p).length = 512 := by simp [Ino.slab]
  have hz : Ino.z512.length = 512 := List.length_replicate
  obtain ⟨base, hbase, hbl, hb2⟩ : ∃ base, (if fr = true ∨ min (at_ + bs.length) (p * 512 + 512) - max at_ (p * 512) = 512 then Ino.z512 else V x.toNat) = base ∧ base.length = 512 ∧ (base = Ino.slab W p ∨ min (at_ + bs.length) (p * 512 + 512) - max at_ (p * 512) = 512) := by
    refine ⟨_, rfl, ?_, ?_⟩
    · split
      · exact hz
      · rename_i hc
        rw [hV (by cases fr; rfl; exact absurd (.inl rfl) hc)]; exact hsl
    · by_cases hc : min (at_ + bs.length) (p * 512 + 512) - max at_ (p * 512) = 512
      · exact .inr hc
      · left
        cases fr with
        | true => rw [if_pos (.inl rfl)]; exact (hfr rfl).symm
        | false => rw [if_neg (by simp [hc])]; exact hV rfl
  unfold fillB
  rw [hbase]
  apply List.ext_getElem?
  intro j
  have hlen : (splB base (max at_ (p * 512) - p * 512) ((bs.drop (max at_ (p * 512) - at_)).take (min (at_ + bs.length) (p * 512 + 512) - max at_ (p * 512)))).length = 512 := by
    rw [splB_length (by rw [List.length_take, List.length_drop]; omega)]; exact hbl
  by_cases hj : j < 512
  · have hr : (Ino.slab (Ino.wrote W at_ bs) p)[j]? = some (Ino.wrote W at_ bs (p * 512 + j)) := by simp [Ino.slab, hj]
    rw [hr]
    have hd : ((bs.drop (max at_ (p * 512) - at_)).take (min (at_ + bs.length) (p * 512 + 512) - max at_ (p * 512))).length = min (at_ + bs.length) (p * 512 + 512) - max at_ (p * 512) := by rw [List.length_take, List.length_drop]; omega
    have hbj : (base = Ino.slab W p) → base[j]? = some (W (p * 512 + j)) := fun e => by rw [e]; simp [Ino.slab, hj]
    unfold splB Ino.wrote
    rw [hd]
    by_cases c1 : j < max at_ (p * 512) - p * 512
    · rw [List.append_assoc, List.getElem?_append_left (by rw [List.length_take]; omega), List.getElem?_take, if_pos c1, if_neg (by omega)]
      rcases hb2 with e | e
      · exact hbj e
      · omega
    · by_cases c2 : j < max at_ (p * 512) - p * 512 + (min (at_ + bs.length) (p * 512 + 512) - max at_ (p * 512))
      · rw [List.append_assoc, List.getElem?_append_right (by rw [List.length_take]; omega), List.length_take, List.getElem?_append_left (by rw [hd]; omega), List.getElem?_take, if_pos (by omega), List.getElem?_drop, if_pos (by omega)]
        have hi : max at_ (p * 512) - at_ + (j - min (max at_ (p * 512) - p * 512) base.length) = p * 512 + j - at_ := by omega
        rw [hi, List.getD_eq_getElem?_getD, List.getElem?_eq_getElem (by omega)]
        rfl
      · rw [List.getElem?_append_right (by rw [List.length_append, List.length_take, hd]; omega), List.length_append, List.length_take, hd, List.getElem?_drop, if_neg (by omega)]
        rcases hb2 with e | e
        · rw [show max at_ (p * 512) - p * 512 + (min (at_ + bs.length) (p * 512 + 512) - max at_ (p * 512)) + (j - (min (max at_ (p * 512) - p * 512) base.length + (min (at_ + bs.length) (p * 512 + 512) - max at_ (p * 512)))) = j by omega]
          exact hbj e
        · omega
  · rw [List.getElem?_eq_none (by rw [hlen]; omega), List.getElem?_eq_none (by simp [Ino.slab]; omega)]

end Go.Proofs.YtebdgcoandfocaaGreatDoor
