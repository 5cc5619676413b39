/-
  What the proof leans on, part 9.
-/
import Derived.Test.YtebdgcoandfocaaGreatDoorQ07
import Derived.BigRegion
import Derived.Test.YtebdgcoandfocaaGreatDoorQ06

/-
  isIdle, rank and use of package bcache.
-/
namespace Go.Proofs.YtebdgcoandfocaaGreatDoor
open Go.RowKit Go.Maps

def idleE (e : EV) : Bool := e.pins == 0 && !e.dirty

set_option maxRecDepth 8000 in
set_option maxHeartbeats 400000 in
theorem isIdle_any (a : Nat) (e : EV) (x : Int) (w : World) (h : IsEnt w a e x) (r : Bool) (hr : idleE e = r) :
    Calls Tryz.prog 124 #[ep a] w fun e w' => e = .returned (.bool r) ∧ w' = w := by
  have c2 : w.cell? ⟨a, 2, none⟩ = some (.int .i64 (e.pins : Nat)) := by rw [cellOf h 2]; rfl
  have c3 : w.cell? ⟨a, 3, none⟩ = some (.bool e.dirty) := by rw [cellOf h 3]; rfl
  clear h
  by_cases hp : e.pins = 0
  · have hp' : ((e.pins : Nat) : Int) = 0 := by omega
    rw [hp'] at c2
    go_enter Tryz.func124, Tryz.ntmps124
    go_wp2
    go_ret
    exact ⟨by rw [← hr]; unfold idleE; rw [hp]; simp, rfl⟩
  · have hp' : (((e.pins : Nat) : Int) == 0) = false := by rw [beq_eq_false_iff_ne]; omega
    go_enter Tryz.func124, Tryz.ntmps124
    go_wp2
    go_ret
    exact ⟨by rw [← hr]; unfold idleE; simp [hp], rfl⟩

/-- The heap's order, but for one entry. -/
def HX (s : CS) (a : Nat) : Prop := (∀ k, k < s.I.length → s.I.getD k 0 = a → FixOk (kvOf (keyU s.U) s.I) s.I.length k) ∧ (a ∉ s.I → HeapF (kvOf (keyU s.U) s.I) s.I.length)

/-- What rank makes of a cache. -/
structure Rk (w w' : World) (s s' : CS) (a : Nat) : Prop where
  cm : CM w' s'
  eq : ∃ ip icap I', s' = { s with ip := ip, icap := icap, I := I' }
  ord : HeapF (kvOf (keyU s'.U) s'.I) s'.I.length
  mem : ∀ b, b ∈ s'.I ↔ (b ∈ s.I ∧ b ≠ a) ∨ (b = a ∧ idleE (s.U a) = true)
  but : But (cMine w s.h) w w'

theorem Rk.fix {w w' : World} {s : CS} {a : Nat} {I' : List Nat} (h : CM w s) (hi : a ∈ s.I) (hid : idleE (s.U a) = true) (hp : HP w' s.c s.ck s.ip s.icap I' s.U) (hperm : I'.Perm s.I) (ho : HeapF (kvOf (keyU s.U) I') I'.length) (hb : But (hpMine s.ip s.I) w w') : Rk w w' s { s with I := I' } a := by
  have hm : ∀ k, hpMine s.ip s.I k → cMine w s.h k ∧ k ≠ s.h ∧ ∀ g, s.dq.map Addr.block = some g → k ≠ g := fun k hk => h.hpMine (.inr hk)
  refine ⟨h.heap (I' := I') hp hb (fun hs => (hm _ hs).2.1 rfl) (fun b hbm hbi => ?_) (fun b hbi => h.sub b (hperm.mem_iff.1 hbi)) (fun k hk hs => (hm _ hs).2.2 k hk rfl) h.apart h.lo.2.2.1, ⟨_, _, _, rfl⟩, ho, fun b => ?_, hb.mono fun k _ hk => (hm k hk).1⟩
  · have hbi' : b ∉ s.I := fun hx => hbi (hperm.mem_iff.2 hx)
    have hz := h.rest b hbm hbi'
    refine hz.but hb fun hs => ?_
    rcases hs with hs | hs
    · obtain ⟨h1, _, _⟩ := hm b (.inl hs)
      rcases h.hp.row.2 with ⟨e, _⟩ | ⟨g', cap', cur, e, _, hblk, _⟩
      · cases hq : s.ip with
        | none => rw [hq] at hs; cases hs
        | some a' => rw [hq] at e; cases e
      · cases hq : s.ip with
        | none => rw [hq] at hs; cases hs
        | some a' =>
          rw [hq] at e hs
          cases e
          cases hs
          exact apart_tags hz hblk (by decide) rfl
    · exact hbi' hs
  · show b ∈ I' ↔ _
    rw [hperm.mem_iff]
    constructor
    · intro hx
      by_cases e : b = a
      · exact .inr ⟨e, hid⟩
      · exact .inl ⟨hx, e⟩
    · rintro (⟨hx, _⟩ | ⟨rfl, _⟩)
      · exact hx
      · exact hi
theorem ip_tag {w : World} {s : CS} (h : CM w s) {k : Nat} (hk : s.ip.map Addr.block = some k) : ∃ cs, w.heap[k]? = some (.cells cs 148 (0, 0)) := by
  rcases h.hp.row.2 with ⟨e, _⟩ | ⟨g', cap', cur, e, _, hblk, _⟩
  · cases hq : s.ip with
    | none => rw [hq] at hk; cases hk
    | some a' => rw [hq] at e; cases e
  · cases hq : s.ip with
    | none => rw [hq] at hk; cases hk
    | some a' =>
      rw [hq] at e hk
      cases e
      cases hk
      exact ⟨_, hblk⟩
theorem dq_tag {w : World} {s : CS} (h : CM w s) {k : Nat} (hk : s.dq.map Addr.block = some k) : ∃ cs, w.heap[k]? = some (.cells cs 148 (0, 0)) := by
  rcases h.row.2 with ⟨e, _⟩ | ⟨g', cap', cur, e, _, hblk, _⟩
  · cases hq : s.dq with
    | none => rw [hq] at hk; cases hk
    | some a' => rw [hq] at e; cases e
  · cases hq : s.dq with
    | none => rw [hq] at hk; cases hk
    | some a' =>
      rw [hq] at e hk
      cases e
      cases hk
      exact ⟨_, hblk⟩
theorem Rk.push {w w' : World} {s : CS} {a : Nat} {ip : Option Addr} {icap : Nat} {I' : List Nat} (h : CM w s) (ha : a ∈ s.A) (hi : a ∉ s.I) (hid : idleE (s.U a) = true) (hp : HP w' s.c s.ck ip icap I' s.U) (hperm : I'.Perm (s.I ++ [a])) (ho : HeapF (kvOf (keyU s.U) I') I'.length) (hb : But (fun k => k = s.c ∨ k = a ∨ hpMine s.ip s.I k) w w')
    (hpl : ∀ k, k < w.heap.size → ip.map Addr.block = some k → s.ip.map Addr.block = some k) : Rk w w' s { s with ip := ip, icap := icap, I := I' } a := by
  obtain ⟨xa, hxa⟩ := h.entAny ha
  have hmem : ∀ b, b ∈ I' ↔ b ∈ s.I ∨ b = a := fun b => by rw [hperm.mem_iff]; simp
  have hm : ∀ k, (k = s.c ∨ k = a ∨ hpMine s.ip s.I k) → cMine w s.h k ∧ k ≠ s.h ∧ ∀ g, s.dq.map Addr.block = some g → k ≠ g := fun k hk => by
    rcases hk with hk | rfl | hk
    · exact h.hpMine (.inl hk)
    · refine ⟨h.mineE ha, Ne.symm (h.hne hxa), fun g hg => ?_⟩
      obtain ⟨cs, hc⟩ := dq_tag h hg
      exact apart_tags hxa hc (by decide)
    · exact h.hpMine (.inr hk)
  refine ⟨h.heap (I' := I') hp hb (fun hs => (hm _ hs).2.1 rfl) (fun b hbm hbi => ?_) (fun b hbi => ?_) (fun k hk hs => (hm _ hs).2.2 k hk rfl) (fun k hk e => ?_) (fun k hk => ?_), ⟨_, _, _, rfl⟩, ho, fun b => ?_, hb.mono fun k _ hk => (hm k hk).1⟩
  · have hbi' : b ∉ s.I := fun hx => hbi ((hmem b).2 (.inl hx))
    have hba : b ≠ a := fun e => hbi ((hmem b).2 (.inr e))
    have hz := h.rest b hbm hbi'
    refine hz.but hb fun hs => ?_
    rcases hs with rfl | hs | hs | hs
    · exact apart_tags hz h.hp.cell (by decide) rfl
    · exact hba hs
    · obtain ⟨cs, hc⟩ := ip_tag h hs
      exact apart_tags hz hc (by decide) rfl
    · exact hbi' hs
  · rcases (hmem b).1 hbi with hx | rfl
    · exact h.sub b hx
    · exact ha
  · obtain ⟨cs, hc⟩ := dq_tag h hk
    exact h.apart k hk (hpl k (Array.getElem?_eq_some_iff.1 hc).1 e)
  · by_cases hlt : k < w.heap.size
    · exact h.lo.2.2.1 k (hpl k hlt hk)
    · have := h.hm.own.lt
      omega
  · show b ∈ I' ↔ _
    rw [hmem]
    constructor
    · rintro (hx | rfl)
      · exact .inl ⟨hx, fun e => hi (e ▸ hx)⟩
      · exact .inr ⟨rfl, hid⟩
    · rintro (⟨hx, _⟩ | ⟨rfl, _⟩)
      · exact .inl hx
      · exact .inr rfl
theorem Rk.remove {w w' : World} {s : CS} {a : Nat} {I' : List Nat} (h : CM w s) (hi : a ∈ s.I) (hid : idleE (s.U a) = false) (hp : HP w' s.c s.ck s.ip s.icap I' s.U) (hperm : (I' ++ [a]).Perm s.I) (ho : HeapF (kvOf (keyU s.U) I') I'.length) (hE : IsEnt w' a (s.U a) (-1)) (hb : But (fun k => k = s.c ∨ hpMine s.ip s.I k) w w') : Rk w w' s { s with I := I' } a ∧ a ∉ I' := by
  have hnd : (I' ++ [a]).Nodup := hperm.nodup_iff.2 h.hp.nodup
  have hna : a ∉ I' := fun hx => (List.nodup_append.1 hnd).2.2 a hx a (by simp) rfl
  have hmem : ∀ b, b ∈ s.I ↔ b ∈ I' ∨ b = a := fun b => by rw [← hperm.mem_iff]; simp
  have hm : ∀ k, (k = s.c ∨ hpMine s.ip s.I k) → cMine w s.h k ∧ k ≠ s.h ∧ ∀ g, s.dq.map Addr.block = some g → k ≠ g := fun k hk => h.hpMine hk
  refine ⟨⟨h.heap (I' := I') hp hb (fun hs => (hm _ hs).2.1 rfl) (fun b hbm hbi => ?_) (fun b hbi => h.sub b ((hmem b).2 (.inl hbi))) (fun k hk hs => (hm _ hs).2.2 k hk rfl) h.apart h.lo.2.2.1, ⟨_, _, _, rfl⟩, ho, fun b => ?_, hb.mono fun k _ hk => (hm k hk).1⟩, hna⟩
  · by_cases e : b = a
    · subst e; exact hE
    · have hbi' : b ∉ s.I := fun hx => by
        rcases (hmem b).1 hx with hx | hx
        · exact hbi hx
        · exact e hx
      have hz := h.rest b hbm hbi'
      refine hz.but hb fun hs => ?_
      rcases hs with rfl | hs | hs
      · exact apart_tags hz h.hp.cell (by decide) rfl
      · obtain ⟨cs, hc⟩ := ip_tag h hs
        exact apart_tags hz hc (by decide) rfl
      · exact hbi' hs
  · show b ∈ I' ↔ _
    constructor
    · intro hx
      exact .inl ⟨(hmem b).2 (.inl hx), fun e => hna (e ▸ hx)⟩
    · rintro (⟨hx, hne⟩ | ⟨_, hx⟩)
      · rcases (hmem b).1 hx with hx | hx
        · exact hx
        · exact absurd hx hne
      · rw [hid] at hx; cases hx

set_option maxRecDepth 8000 in
set_option maxHeartbeats 2000000 in
theorem rank_any (s : CS) (a : Nat) (w : World) (h : CM w s) (ha : a ∈ s.A) (hx : HX s a) (hl : s.I.length + 1 < 1000000) :
    Calls Tryz.prog 110 #[ep s.c, ep a] w fun e w' => e = .returned (.tuple #[]) ∧ ∃ s', Rk w w' s s' a := by
  obtain ⟨x, hE, hin, hout⟩ := h.ent ha
  have c5 : w.cell? ⟨a, 5, none⟩ = some (.int .i64 x) := by rw [cellOf hE 5]; rfl
  by_cases hi : a ∈ s.I
  · obtain ⟨k, hk, hka, rfl⟩ := hin hi
    have hne : (((k : Nat) : Int) != -1) = true := by rw [bne_iff_ne]; omega
    by_cases hid : idleE (s.U a) = true
    · have cI := isIdle_any a (s.U a) _ w hE true hid
      have cF : ∀ q, Calls Tryz.prog 125 #[hI s.c, .int .i64 (k : Nat)] (w.drewN q) fun e w' => e = .returned (.tuple #[]) ∧ ∃ I', HP w' s.c s.ck s.ip s.icap I' s.U ∧ I'.Perm s.I ∧ HeapF (kvOf (keyU s.U) I') I'.length ∧ But (hpMine s.ip s.I) w w' := fun q => by
        refine (hFix_any s.c s.ck s.ip s.icap s.I s.U k (w.drewN q) (h.hp.drewN q) hk (hx.1 k hk hka)).mono ?_
        rintro e w' ⟨rfl, I', h1, h2, h3, h4⟩
        exact ⟨rfl, I', h1, h2, h3, ⟨h4.os, h4.tape, h4.output, h4.size, h4.block⟩⟩
      have cF' := cF 1
      have H0 : Hid (CM w s) := h
      clear h hx cF hE hin hout
      go_enter Tryz.func110, Tryz.ntmps110
      go_wp2_with (go_at_call 124; refine Calls_on cI ?_)
      go_region_with (go_at_call 125; refine (show Calls Tryz.prog 125 #[hI s.c, .int .i64 (k : Nat)] w.drew _ from cF').mono ?_; rintro e w1 ⟨rfl, I1, h1, h2, h3, h4⟩)
      all_goals go_wp2
      all_goals go_end0
      all_goals exact ⟨rfl, _, Rk.fix H0.out hi hid h1 h2 h3 h4⟩
    · have hid' : idleE (s.U a) = false := by simpa using hid
      have cI := isIdle_any a (s.U a) _ w hE false hid'
      have cF' : Calls Tryz.prog 127 #[hI s.c, .int .i64 (k : Nat)] w.drew fun e w' => e = .returned (.iface 148 (ep a)) ∧ ∃ I', HP w' s.c s.ck s.ip s.icap I' s.U ∧ (I' ++ [a]).Perm s.I ∧ HeapF (kvOf (keyU s.U) I') I'.length ∧ IsEnt w' a (s.U a) (-1) ∧ But (fun k => k = s.c ∨ hpMine s.ip s.I k) w w' := by
        refine (hRemove_any s.c s.ck s.ip s.icap s.I s.U k a w.drew h.hp.drew hk hka (hx.1 k hk hka)).mono ?_
        rintro e w' ⟨rfl, I', h1, h2, h3, h4, h5⟩
        exact ⟨rfl, I', h1, h2, h3, h4, ⟨h5.os, h5.tape, h5.output, h5.size, h5.block⟩⟩
      have H0 : Hid (CM w s) := h
      clear h hx hE hin hout
      go_enter Tryz.func110, Tryz.ntmps110
      go_wp2_with (go_at_call 124; refine Calls_on cI ?_)
      go_region_with (go_at_call 127; refine cF'.mono ?_; rintro e w1 ⟨rfl, I1, h1, h2, h3, h4, h5⟩)
      all_goals go_wp2
      all_goals go_end0
      all_goals exact ⟨rfl, _, (Rk.remove H0.out hi hid' h1 h2 h3 h4 h5).1⟩
  · obtain rfl := hout hi
    have hne : ((-1 : Int) != -1) = false := by decide
    by_cases hid : idleE (s.U a) = true
    · have cI := isIdle_any a (s.U a) _ w hE true hid
      have cF' := hPush_any s.c s.ck s.ip s.icap a s.I s.U (-1) w h.hp hE hi hl (hx.2 hi)
      have H0 : Hid (CM w s) := h
      clear h hx hE hin hout
      go_enter Tryz.func110, Tryz.ntmps110
      go_wp2_with (first
        | (go_at_call 124; refine Calls_on cI ?_)
        | (go_at_call 126; refine cF'.mono ?_; rintro e w1 ⟨rfl, p1, cap1, I1, h1, h2, h3, h4, h5⟩))
      go_end0
      exact ⟨rfl, _, Rk.push H0.out ha hi hid h1 h2 h3 h4 h5⟩
    · have hid' : idleE (s.U a) = false := by simpa using hid
      have cI := isIdle_any a (s.U a) _ w hE false hid'
      have H0 : Hid (CM w s ∧ HeapF (kvOf (keyU s.U) s.I) s.I.length) := ⟨h, hx.2 hi⟩
      clear h hx hE hin hout
      go_enter Tryz.func110, Tryz.ntmps110
      go_wp2_with (go_at_call 124; refine Calls_on cI ?_)
      go_end0
      refine ⟨rfl, s, H0.out.1, ⟨_, _, _, rfl⟩, H0.out.2, fun b => ?_, But.refl _ _⟩
      constructor
      · intro hb
        exact .inl ⟨hb, fun e => hi (e ▸ hb)⟩
      · rintro (⟨hb, _⟩ | ⟨_, hb⟩)
        · exact hb
        · rw [hid'] at hb; cases hb

/-- What use makes of a cache. -/
structure Us (w w' : World) (s s' : CS) (a : Nat) : Prop where
  cm : CM w' s'
  eq : ∃ ip icap I', s' = { s with uses := s.uses + 1, U := updU s.U a { s.U a with used := s.uses + 1 }, ip := ip, icap := icap, I := I' }
  ord : HeapF (kvOf (keyU s'.U) s'.I) s'.I.length
  mem : ∀ b, b ∈ s'.I ↔ (b ∈ s.I ∧ b ≠ a) ∨ (b = a ∧ idleE (s.U a) = true)
  but : But (cMine w s.h) w w'

theorem kvOf_upd {U : Nat → EV} {I : List Nat} {a : Nat} (hn : I.Nodup) (e : EV) {k i : Nat} (hi : I.getD i 0 = a) (hil : i < I.length) (hk : k < I.length) (hki : k ≠ i) : kvOf (keyU (updU U a e)) I k = kvOf (keyU U) I k := by
  unfold kvOf keyU
  rw [updU_other _ _ (fun e' => hki (getD_inj hn hk hil (e'.trans hi.symm)))]
theorem kvOf_upd_not {U : Nat → EV} {I : List Nat} {a : Nat} (hi : a ∉ I) (e : EV) {k : Nat} (hk : k < I.length) : kvOf (keyU (updU U a e)) I k = kvOf (keyU U) I k := by
  have hne : I.getD k 0 ≠ a := fun e' => hi (e' ▸ getD_mem hk)
  unfold kvOf keyU
  rw [updU_other _ _ hne]
/-- An entry's key is turned: the heap's order holds but for it. -/
theorem hx_upd {s : CS} {a : Nat} (hn : s.I.Nodup) (hx : HX s a) (e : EV) : HX { s with U := updU s.U a e } a := by
  refine ⟨fun k hk hka => ?_, fun hi => ?_⟩
  · show FixOk (kvOf (keyU (updU s.U a e)) s.I) s.I.length k
    exact (hx.1 k hk hka).cut (Nat.le_refl _) fun j hj hjk => kvOf_upd hn e hka hk hj hjk
  · show HeapF (kvOf (keyU (updU s.U a e)) s.I) s.I.length
    exact (hx.2 hi).less (Nat.le_refl _) fun j hj => kvOf_upd_not hi e hj
theorem hx_of_ord {s : CS} {a : Nat} (h : HeapF (kvOf (keyU s.U) s.I) s.I.length) : HX s a := ⟨fun _ hk _ => h.toFix hk, fun _ => h⟩

set_option maxRecDepth 8000 in
set_option maxHeartbeats 1000000 in
theorem use_any (s : CS) (a : Nat) (w : World) (h : CM w s) (ha : a ∈ s.A) (hx : HX s a) (hl : s.I.length + 1 < 1000000) (hu : s.uses < 1000000) :
    Calls Tryz.prog 91 #[ep s.c, ep a] w fun e w' => e = .returned (.tuple #[]) ∧ ∃ s', Us w w' s s' a := by
  obtain ⟨x, hE⟩ := h.entAny ha
  have c5 : w.cell? ⟨s.c, 5, none⟩ = some (.int .i64 (s.uses : Nat)) := by rw [cellOf h.hp.cell 5]; rfl
  have f5 := frozenOf h.hp.cell 5
  have c4 : w.cell? ⟨a, 4, none⟩ = some (.int .i64 ((s.U a).used : Nat)) := by rw [cellOf hE 4]; rfl
  have f4 := frozenOf hE 4
  have ca : s.c ≠ a := apart_tags h.hp.cell hE (by decide)
  have ca' := Ne.symm ca
  have h1 := h.setUses (s.uses + 1)
  have h2 := h1.setE (a := a) ha 4 (.int .i64 (s.uses + 1 : Nat)) { s.U a with used := s.uses + 1 } (fun _ => rfl) rfl (by show s.uses + 1 < _; omega)
  have hx2 := hx_upd (s := { s with uses := s.uses + 1 }) (a := a) h.hp.nodup ⟨hx.1, hx.2⟩ { s.U a with used := s.uses + 1 }
  have cR := rank_any _ a _ h2 ha hx2 hl
  obtain ⟨z, hz, e1⟩ : ∃ z : Int, ((s.uses + 1 : Nat) : Int) = z ∧ ((s.uses : Nat) : Int) + 1 = z := ⟨_, rfl, by omega⟩
  have mC : cMine w s.h s.c := h.mineC
  have mE : cMine w s.h a := h.mineE ha
  have hB : But (cMine w s.h) w ((w.setCell ⟨s.c, 5, none⟩ (.int .i64 (s.uses + 1 : Nat))).setCell ⟨a, 4, none⟩ (.int .i64 (s.uses + 1 : Nat))) := (((But.refl (cMine w s.h) w).setCell _ mC _).setCell _ mE _)
  have HB : Hid (But (cMine w s.h) w ((w.setCell ⟨s.c, 5, none⟩ (.int .i64 (s.uses + 1 : Nat))).setCell ⟨a, 4, none⟩ (.int .i64 (s.uses + 1 : Nat)))) := hB
  clear h h1 h2 hx hx2 hE hB mC mE
  rw [hz] at cR HB
  clear hz
  go_enter Tryz.func91, Tryz.ntmps91
  go_wp2_with fail
  refine cR.mono ?_
  rintro e w' ⟨rfl, s', hR⟩
  clear cR
  go_wp2
  go_end0
  obtain ⟨ip, icap, I', he⟩ := hR.eq
  refine ⟨rfl, s', hR.cm, ⟨ip, icap, I', he⟩, hR.ord, fun b => ?_, cMine_trans HB.out hR.but⟩
  have := hR.mem b
  simp only [updU_same] at this
  exact this

end Go.Proofs.YtebdgcoandfocaaGreatDoor

/-
  makeRoom and hold of package bcache.
-/
namespace Go.Proofs.YtebdgcoandfocaaGreatDoor
open Go.RowKit Go.Maps

theorem cm_removed {w w' : World} {s : CS} {a : Nat} {I' : List Nat} (h : CM w s) (hp : HP w' s.c s.ck s.ip s.icap I' s.U) (hperm : (I' ++ [a]).Perm s.I) (hE : IsEnt w' a (s.U a) (-1)) (hb : But (fun k => k = s.c ∨ hpMine s.ip s.I k) w w') :
    CM w' { s with I := I' } ∧ a ∉ I' ∧ (∀ b, b ∈ s.I ↔ b ∈ I' ∨ b = a) ∧ But (cMine w s.h) w w' := by
  have hnd : (I' ++ [a]).Nodup := hperm.nodup_iff.2 h.hp.nodup
  have hna : a ∉ I' := fun hx => (List.nodup_append.1 hnd).2.2 a hx a (by simp) rfl
  have hmem : ∀ b, b ∈ s.I ↔ b ∈ I' ∨ b = a := fun b => by rw [← hperm.mem_iff]; simp
  have hm : ∀ k, (k = s.c ∨ hpMine s.ip s.I k) → cMine w s.h k ∧ k ≠ s.h ∧ ∀ g, s.dq.map Addr.block = some g → k ≠ g := fun k hk => h.hpMine hk
  refine ⟨h.heap (I' := I') hp hb (fun hs => (hm _ hs).2.1 rfl) (fun b hbm hbi => ?_) (fun b hbi => h.sub b ((hmem b).2 (.inl hbi))) (fun k hk hs => (hm _ hs).2.2 k hk rfl) h.apart h.lo.2.2.1, hna, hmem, hb.mono fun k _ hk => (hm k hk).1⟩
  by_cases e : b = a
  · subst e; exact hE
  · have hbi' : b ∉ s.I := fun hx => by
      rcases (hmem b).1 hx with hx | hx
      · exact hbi hx
      · exact e hx
    have hz := h.rest b hbm hbi'
    refine hz.but hb fun hs => ?_
    rcases hs with rfl | hs | hs
    · exact apart_tags hz h.hp.cell (by decide) rfl
    · obtain ⟨cs, hc⟩ := ip_tag h hs
      exact apart_tags hz hc (by decide) rfl
    · exact hbi' hs

theorem held_len {w : World} {s : CS} (h : CM w s) (ty : TypeId) : (Builtin.len_ #[87] ty #[.map (some s.h)]).run Tryz.prog w = .ok (.int .i64 (s.A.length : Nat)) w := by
  have := h.hm.own.len Tryz.underlying87 ty
  rw [h.hm.size] at this
  exact this

set_option maxRecDepth 8000 in
set_option maxHeartbeats 1000000 in
theorem makeRoom_yes (s : CS) (w : World) (h : CM w s) (hlt : s.A.length < s.room) (_hr : s.room ≤ 4096) :
    Calls Tryz.prog 122 #[ep s.c] w fun e w' => e = .returned (.int .i64 0) ∧ ∃ q, w' = w.drewN q := by
  have c1 : w.cell? ⟨s.c, 1, none⟩ = some (.int .i64 (s.room : Nat)) := by rw [cellOf h.hp.cell 1]; rfl
  have c2 : w.cell? ⟨s.c, 2, none⟩ = some (.map (some s.h)) := by rw [cellOf h.hp.cell 2]; rfl
  have l1 : ∀ ty q, (Builtin.len_ #[87] ty #[.map (some s.h)]).run Tryz.prog (w.drewN q) = .ok (.int .i64 (s.A.length : Nat)) (w.drewN q) := fun ty q => held_len (h.drewN q) ty
  have hltI : ((s.A.length : Nat) : Int) < (s.room : Nat) := by omega
  clear h
  go_enter Tryz.func122, Tryz.ntmps122
  go_wp2_with fail
  go_quiet (fail)
  go_wp2
  go_ret
  exact ⟨rfl, _, rfl⟩

set_option maxRecDepth 8000 in
set_option maxHeartbeats 1000000 in
theorem makeRoom_no (s : CS) (w : World) (h : CM w s) (hlt : s.room ≤ s.A.length) (hI : s.I = []) :
    Calls Tryz.prog 122 #[ep s.c] w fun e w' => e = .returned (.int .i64 28) ∧ ∃ q, w' = w.drewN q := by
  have c1 : w.cell? ⟨s.c, 1, none⟩ = some (.int .i64 (s.room : Nat)) := by rw [cellOf h.hp.cell 1]; rfl
  have c2 : w.cell? ⟨s.c, 2, none⟩ = some (.map (some s.h)) := by rw [cellOf h.hp.cell 2]; rfl
  have c4 := h.hp.cell4
  rw [hI] at c4
  have l1 : ∀ ty q, (Builtin.len_ #[87] ty #[.map (some s.h)]).run Tryz.prog (w.drewN q) = .ok (.int .i64 (s.A.length : Nat)) (w.drewN q) := fun ty q => held_len (h.drewN q) ty
  have hltI : ¬ ((s.A.length : Nat) : Int) < (s.room : Nat) := by omega
  clear h
  go_enter Tryz.func122, Tryz.ntmps122
  go_wp2_with fail
  go_quiet (fail)
  go_wp2
  go_ret
  exact ⟨rfl, _, rfl⟩

/-- What is taken out. -/
structure Mr (w w' : World) (s s' : CS) (a : Nat) : Prop where
  cm : CM w' s'
  eq : ∃ F I', s' = { s with F := F, I := I', A := s.A.filter (fun b => b != a), out := s.out + 1 }
  ord : HeapF (kvOf (keyU s'.U) s'.I) s'.I.length
  inI : a ∈ s.I
  least : ∀ b ∈ s.I, (s.U a).used ≤ (s.U b).used
  mem : ∀ b, b ∈ s'.I ↔ b ∈ s.I ∧ b ≠ a
  but : But (cMine w s.h) w w'

set_option maxRecDepth 8000 in
set_option maxHeartbeats 2000000 in
theorem makeRoom_out (s : CS) (w : World) (h : CM w s) (hlt : s.room ≤ s.A.length) (hpos : 0 < s.I.length) (ho : HeapF (kvOf (keyU s.U) s.I) s.I.length) (hout : s.out < 1000000) :
    Calls Tryz.prog 122 #[ep s.c] w fun e w' => e = .returned (.int .i64 0) ∧ ∃ a s', Mr w w' s s' a := by
  have c1 : w.cell? ⟨s.c, 1, none⟩ = some (.int .i64 (s.room : Nat)) := by rw [cellOf h.hp.cell 1]; rfl
  have c2 : w.cell? ⟨s.c, 2, none⟩ = some (.map (some s.h)) := by rw [cellOf h.hp.cell 2]; rfl
  have c4 := h.hp.cell4
  obtain ⟨g, cur, hip, hb, hl1, hl2, hl3, hl4⟩ := h.hp.form hpos
  obtain ⟨n, hn⟩ : ∃ n, s.I.length = n + 1 := ⟨s.I.length - 1, by omega⟩
  obtain ⟨a, ha⟩ : ∃ a, s.I.getD 0 0 = a := ⟨_, rfl⟩
  have g0 : w.cell? ⟨g, 0, none⟩ = some (ep a) := by
    have h' := h.hp
    rw [hip] at h'
    have := h'.cellAt 0 hpos
    rw [ha] at this
    exact this
  have hE : IsEnt w a (s.U a) ((0 : Nat) : Int) := by have := h.hp.ents 0 hpos; rw [ha] at this; exact this
  have a5 : w.cell? ⟨a, 5, none⟩ = some (.int .i64 0) := by rw [cellOf hE 5]; rfl
  have l1 : ∀ ty q, (Builtin.len_ #[87] ty #[.map (some s.h)]).run Tryz.prog (w.drewN q) = .ok (.int .i64 (s.A.length : Nat)) (w.drewN q) := fun ty q => held_len (h.drewN q) ty
  have hltI : ¬ ((s.A.length : Nat) : Int) < (s.room : Nat) := by omega
  have haI : a ∈ s.I := by rw [← ha]; exact getD_mem hpos
  have hleast : ∀ b ∈ s.I, (s.U a).used ≤ (s.U b).used := fun b hbm => by
    obtain ⟨k, hk, e⟩ := List.getElem_of_mem hbm
    have := ho.least k hk
    unfold kvOf keyU at this
    rw [ha] at this
    simpa [List.getD, hk, e] using this
  have cF : ∀ q, Calls Tryz.prog 127 #[hI s.c, .int .i64 0] (w.drewN q) fun e w' => e = .returned (.iface 148 (ep a)) ∧ ∃ I', HP w' s.c s.ck s.ip s.icap I' s.U ∧ (I' ++ [a]).Perm s.I ∧ HeapF (kvOf (keyU s.U) I') I'.length ∧ IsEnt w' a (s.U a) (-1) ∧ But (fun k => k = s.c ∨ hpMine s.ip s.I k) w w' := fun q => by
    refine (hRemove_any s.c s.ck s.ip s.icap s.I s.U 0 a (w.drewN q) (h.hp.drewN q) hpos ha (ho.toFix hpos)).mono ?_
    rintro e w' ⟨rfl, I', h1, h2, h3, h4, h5⟩
    exact ⟨rfl, I', h1, h2, h3, h4, ⟨h5.os, h5.tape, h5.output, h5.size, h5.block⟩⟩
  rw [hip, hn] at c4
  have H0 : Hid (CM w s ∧ a ∈ s.I ∧ (∀ b ∈ s.I, (s.U a).used ≤ (s.U b).used)) := ⟨h, haI, hleast⟩
  have hz : (((n + 1 : Nat) : Int) == 0) = false := by rw [beq_eq_false_iff_ne]; omega
  clear h ho hb hl1 hl2 hl3 hl4 hE haI hleast ha hip
  go_enter Tryz.func122, Tryz.ntmps122
  go_wp2_with fail
  go_quiet (fail)
  go_wp2_with fail
  have a5' : (w.drewN nq).cell? ⟨a, 5, none⟩ = some (.int .i64 0) := a5
  have cF' : Calls Tryz.prog 127 #[hI s.c, .int .i64 0] ((w.drewN nq).drew) fun e w' => e = .returned (.iface 148 (ep a)) ∧ ∃ I', HP w' s.c s.ck s.ip s.icap I' s.U ∧ (I' ++ [a]).Perm s.I ∧ HeapF (kvOf (keyU s.U) I') I'.length ∧ IsEnt w' a (s.U a) (-1) ∧ But (fun k => k = s.c ∨ hpMine s.ip s.I k) w w' := cF (nq + 1)
  generalize w.drewN nq = W at a5' cF' ⊢
  clear a5 cF l1 c1 c2 c4 g0
  go_region_with (go_at_call 127; refine cF'.mono ?_; rintro e w1 ⟨rfl, I1, h1, h2, h3, h4, h5⟩)
  all_goals
    clear cF' a5'
    obtain ⟨cm1, hna, hmem, hb1⟩ := cm_removed H0.out.1 h1 h2 h4 h5
    have d2 : w1.cell? ⟨s.c, 2, none⟩ = some (.map (some s.h)) := by rw [cellOf cm1.hp.cell 2]; rfl
    have d0 : w1.cell? ⟨a, 0, none⟩ = some (.int .i64 ((s.U a).block : Nat)) := by rw [cellOf h4 0]; rfl
    have hm1 : HM w1.drew s.h s.nh s.F s.A (fun a => (s.U a).block) := cm1.hm.but (S := fun _ => False) ⟨rfl, rfl, rfl, Nat.le_refl _, fun _ _ _ => rfl⟩ (fun h => h)
    obtain ⟨w3, F3, hdel, hm3, hb3⟩ := hm1.del (H0.out.1.sub a H0.out.2.1) 0
    have hb3' : But (fun k => k = s.h) w1 w3 := ⟨hb3.os, hb3.tape, hb3.output, hb3.size, hb3.block⟩
    have cm3 := cm1.del (a := a) hna hm3 hb3'
    have d8 : w3.cell? ⟨s.c, 8, none⟩ = some (.int .i64 (s.out : Nat)) := by rw [cellOf cm3.hp.cell 8]; rfl
    have f8 := frozenOf cm3.hp.cell 8
    have cm4 := cm3.setOut (s.out + 1)
    have mC : cMine w3 s.h s.c := cm3.mineC
    obtain ⟨z, hz, e1⟩ : ∃ z : Int, ((s.out + 1 : Nat) : Int) = z ∧ ((s.out : Nat) : Int) + 1 = z := ⟨_, rfl, by omega⟩
    have hB3 : But (cMine w s.h) w w3 := cMine_trans hb1 (hb3'.mono fun k _ hk => .inl hk)
    have hB4 : But (cMine w s.h) w (w3.setCell ⟨s.c, 8, none⟩ (.int .i64 ((s.out + 1 : Nat) : Int))) := cMine_trans hB3 ((But.refl (cMine w3 s.h) w3).setCell _ mC _)
    have HF : Hid (Mr w (w3.setCell ⟨s.c, 8, none⟩ (.int .i64 ((s.out + 1 : Nat) : Int))) s { s with F := F3, I := I1, A := s.A.filter (fun b => b != a), out := s.out + 1 } a) := ⟨cm4, ⟨_, _, rfl⟩, h3, H0.out.2.1, H0.out.2.2, fun b => ⟨fun hb => ⟨(hmem b).2 (.inl hb), fun e => hna (e ▸ hb)⟩, fun hb => ((hmem b).1 hb.1).resolve_right hb.2⟩, hB4⟩
    rw [hz] at HF
    clear hz cm1 hna hmem hb1 h1 h2 h3 h4 h5 hm1 hm3 hb3 hb3' cm3 cm4 mC hB3 hB4
    go_wp2_with fail
    go_region
    all_goals go_wp2
    all_goals go_ret
    all_goals exact ⟨rfl, a, _, HF.out⟩

end Go.Proofs.YtebdgcoandfocaaGreatDoor

/-
  hold of package bcache.
-/
namespace Go.Proofs.YtebdgcoandfocaaGreatDoor
open Go.RowKit Go.Maps

def newE (block : Nat) : EV := ⟨block, none, 0, 0, 0, false, 0⟩

set_option maxRecDepth 8000 in
set_option maxHeartbeats 1000000 in
theorem hold_yes (s : CS) (a : Nat) (w : World) (h : CM w s) (ha : a ∈ s.A) :
    Calls Tryz.prog 107 #[ep s.c, .int .i64 ((s.U a).block : Nat)] w fun e w' => e = .returned (.tuple #[ep a, .int .i64 0]) ∧ w' = w := by
  have c2 : w.cell? ⟨s.c, 2, none⟩ = some (.map (some s.h)) := by rw [cellOf h.hp.cell 2]; rfl
  have l1 := h.hm.look_yes ha
  clear h
  go_enter Tryz.func107, Tryz.ntmps107
  go_wp2
  go_ret2
  exact ⟨rfl, rfl⟩

set_option maxRecDepth 8000 in
set_option maxHeartbeats 1000000 in
theorem hold_no (s : CS) (block : Nat) (w : World) (h : CM w s) (hb : block < 1000000) (hno : ∀ a ∈ s.A, (s.U a).block ≠ block) (hlt : s.room ≤ s.A.length) (hI0 : s.I = []) :
    Calls Tryz.prog 107 #[ep s.c, .int .i64 (block : Nat)] w fun e w' => e = .returned (.tuple #[.pointer none, .int .i64 28]) ∧ ∃ q, w' = w.drewN q := by
  have c2 : w.cell? ⟨s.c, 2, none⟩ = some (.map (some s.h)) := by rw [cellOf h.hp.cell 2]; rfl
  have l1 := h.hm.look_no (x := (block : Int)) (by omega) (by omega) (fun a ha e => hno a ha (by omega))
  have cM := makeRoom_no s w h hlt hI0
  clear h
  go_enter Tryz.func107, Tryz.ntmps107
  go_wp2_with (go_at_call 122; refine cM.mono ?_; rintro e w1 ⟨rfl, q, rfl⟩)
  go_ret2
  exact ⟨rfl, q, rfl⟩

set_option maxRecDepth 8000 in
set_option maxHeartbeats 2000000 in
theorem hold_new (s : CS) (block : Nat) (w : World) (h : CM w s) (hb : block < 1000000) (hno : ∀ a ∈ s.A, (s.U a).block ≠ block) (Q : World → CS → Prop)
    (cM : Calls Tryz.prog 122 #[ep s.c] w fun e w1 => e = .returned (.int .i64 0) ∧ ∃ s1, Hid (CM w1 s1 ∧ s1.c = s.c ∧ s1.h = s.h ∧ (∀ a ∈ s1.A, a ∈ s.A) ∧ s1.U = s.U ∧ s1.nh < 1000000 ∧ Q w1 s1)) :
    Calls Tryz.prog 107 #[ep s.c, .int .i64 (block : Nat)] w fun e w' => ∃ w1 s1 F, e = .returned (.tuple #[ep w1.heap.size, .int .i64 0]) ∧ Q w1 s1 ∧ CM w1 s1 ∧ CM w' { s1 with nh := s1.nh + 1, F := F, A := s1.A ++ [w1.heap.size], U := updU s1.U w1.heap.size (newE block) } ∧ But (cMine w1 s1.h) w1 w' := by
  have c2 : w.cell? ⟨s.c, 2, none⟩ = some (.map (some s.h)) := by rw [cellOf h.hp.cell 2]; rfl
  have l1 := h.hm.look_no (x := (block : Int)) (by omega) (by omega) (fun a ha e => hno a ha (by omega))
  clear h
  go_enter Tryz.func107, Tryz.ntmps107
  go_wp2_with (go_at_call 122; refine cM.mono ?_; rintro e w1 ⟨rfl, s1, HQ⟩; clear cM; refine Stop.out ?_)
  refine Stop.mk ?_
  obtain ⟨cm1, hc, hh, hA, hU, hnh, _⟩ := HQ.out
  have d2 : w1.cell? ⟨s.c, 2, none⟩ = some (.map (some s.h)) := by rw [← hc, cellOf cm1.hp.cell 2, ← hh]; rfl
  have hcl : s.c < w1.heap.size := by rw [← hc]; exact (Array.getElem?_eq_some_iff.1 cm1.hp.cell).1
  have hcn : s.c ≠ w1.heap.size := by omega
  have hnA : w1.heap.size ∉ s1.A := fun hx => by have := cm1.alt hx; omega
  have hneA : ∀ b ∈ s1.A, b ≠ w1.heap.size := fun b hbm e => hnA (e ▸ hbm)
  have hm1 : HM (w1.alloc (.cells #[.int .i64 (block : Nat), .slice none 0 0, .int .i64 0, .bool false, .int .i64 0, .int .i64 (-1)] 154)) s1.h s1.nh s1.F s1.A (fun a => (updU s1.U w1.heap.size (newE block) a).block) :=
    (cm1.hm.but (S := fun _ => False) ((But.refl _ w1).alloc _) (fun h => h)).congr fun a ha => by rw [updU_other _ _ (hneA a ha)]
  have hbl : (updU s1.U w1.heap.size (newE block) w1.heap.size).block = block := by rw [updU_same]; rfl
  obtain ⟨w2, F, hput, hm2, hb2⟩ := hm1.ins (a := w1.heap.size) hnA (by rw [hbl]; exact hb) (fun b hbm => by rw [hbl, updU_other _ _ (hneA b hbm), hU]; exact hno b (hA b hbm)) hnh
  rw [hbl, hh] at hput
  obtain ⟨cm2, hB2⟩ := cm1.ins (e := newE block) (by show 0 < 1000000000; omega) hm2 hb2
  have HF : Hid (CM w2 { s1 with nh := s1.nh + 1, F := F, A := s1.A ++ [w1.heap.size], U := updU s1.U w1.heap.size (newE block) } ∧ But (cMine w1 s1.h) w1 w2) := ⟨cm2, hB2⟩
  clear cm1 hc hh hA hU hnh hnA hneA hm1 hbl hm2 hb2 cm2 hB2 l1 c2
  go_wp2
  go_ret2
  exact ⟨w1, s1, F, rfl, HQ.out.2.2.2.2.2.2, HQ.out.1, HF.out.1, HF.out.2⟩

end Go.Proofs.YtebdgcoandfocaaGreatDoor

/-
  Read of a volume, and where what it answers lies.
-/
namespace Go.Proofs.YtebdgcoandfocaaGreatDoor
open Go.RowKit Go.Maps Go.Sort Go.Shelf

set_option maxRecDepth 8000 in
set_option maxHeartbeats 1000000 in
theorem vReadT_fresh (i : Nat) (b : By) (v : Nat) (commits turn next : Nat) (f nf : Nat) (F : DataW Value) (fr : Nat → Option By) (d : DS) (w : World) (h : IsVol w v (dp d.a) commits turn next (some f) d.count) (hd : Dev w d) (hn : 16 ≤ d.n) (hF : Fresh w f nf F fr) (hi : i < nbOf d.n) (hfr : fr i = some b) :
    Calls Tryz.prog 109 #[dp v, .int .i64 i] w fun e w' => ∃ g cp, e = .returned (.tuple #[.slice (some ⟨g, 0, none⟩) 512 cp, .int .i64 0]) ∧ 512 ≤ cp ∧ b.length = 512 ∧ Bytes w' (some ⟨g, 0, none⟩) b ∧ Below w.heap.size w w' ∧ w.heap.size ≤ g ∧ ∃ cs fr, w'.heap[g]? = some (.cells cs 5 fr) := by
  have hle := hd.hn
  have hnb : nbOf d.n ≤ 65536 := by unfold nbOf; omega
  have c47 := vHas i v commits turn next (some f) d.count d w h hd hn
  rw [show decide ((0 : Int) ≤ (i : Int) ∧ (i : Int) < (nbOf d.n : Nat)) = true by simp; omega] at c47
  have c13 := catchUp_idle v commits turn next (some f) d w h hd
  obtain ⟨hbl, g0, cp0, hat, hcp0, hb0, _⟩ := hF.val i b (by omega) hfr
  have hhas := hF.has i (by omega)
  rw [hfr] at hhas
  have lk : ∀ k, (Instr.lookup 113 (.map (some f)) (.int .i64 i) true).run Tryz.prog (w.drewN k) = .ok (.tuple #[.slice (some ⟨g0, 0, none⟩) 512 cp0, .bool true]) (w.drewN k) := by
    intro k
    have hown : (w.drewN k).ownsMap Tryz.prog 3 slElem f nf F := hF.own
    obtain ⟨p, n, c, hrun, he⟩ := slook_ok hown (i := i) (by omega)
    rw [hat] at he
    simp only [slD, DataW.held.injEq, Value.slice.injEq] at he
    obtain ⟨rfl, rfl, rfl⟩ := he
    rw [hhas] at hrun
    exact hrun
  have x4 : ∀ k, (w.drewN k).cell? ⟨v, 4, none⟩ = some (.map (some f)) := fun k => by have := cellOf h 4; simpa [volCells] using this
  have cl : ∀ k, Calls Tryz.prog 92 #[.slice (some ⟨g0, 0, none⟩) 512 cp0] (w.drewN k) fun e w' => ∃ g cap, e = .returned (.slice (some ⟨g, 0, none⟩) 512 cap) ∧ w.heap.size ≤ g ∧ 512 ≤ cap ∧ Bytes w' (some ⟨g, 0, none⟩) b ∧ Below w.heap.size w w' ∧ ∃ cs fr, w'.heap[g]? = some (.cells cs 5 fr) := by
    intro k
    have := clone_bytes g0 0 b cp0 (w.drewN k) (below_bytes (below_drewN (Below.refl _ w) k) hb0) (by omega) (by omega)
    rw [hbl] at this
    refine this.mono ?_
    rintro e w' ⟨g, cap, rfl, h1, h2, h3, h4, h5⟩
    exact ⟨g, cap, rfl, h1, h2, h3, (below_drewN (Below.refl _ w) k).trans h4, h5⟩
  clear h hd hF hat hb0 hhas hfr
  go_enter Tryz.func109, Tryz.ntmps109
  go_wp2_with (first
    | (go_at_call 116; refine Calls_on c47 ?_)
    | (go_at_call 123; refine c13.mono ?_; rintro e w1 ⟨rfl, k1, rfl⟩; clear c13; have lk' := lk k1; have x4' := x4 k1; have cl' := cl k1; clear lk x4 cl)
    | (go_at_call 92; refine cl'.mono ?_; rintro e w2 ⟨g2, cap2, rfl, hg2, hc2, hb2, hB2, ht2⟩; clear cl'))
  go_ret2
  exact ⟨g2, cap2, rfl, hc2, hbl, hb2, hB2, hg2, ht2⟩

set_option maxRecDepth 8000 in
set_option maxHeartbeats 1000000 in
theorem vReadT_home (i : Nat) (v : Nat) (commits turn next : Nat) (f nf : Nat) (F : DataW Value) (fr : Nat → Option By) (d : DS) (w : World) (h : IsVol w v (dp d.a) commits turn next (some f) d.count) (hd : Dev w d) (hn : 16 ≤ d.n) (hF : Fresh w f nf F fr) (hi : i < nbOf d.n) (hfr : fr i = none) :
    Calls Tryz.prog 109 #[dp v, .int .i64 i] w fun e w' => ∃ g, e = .returned (.tuple #[.slice (some ⟨g, 0, none⟩) 512 512, .int .i64 0]) ∧ Bytes w' (some ⟨g, 0, none⟩) (d.B (1 + i)) ∧ Below w.heap.size w w' ∧ w.heap.size ≤ g ∧ ∃ cs fr, w'.heap[g]? = some (.cells cs 5 fr) := by
  have hle := hd.hn
  have hnb : nbOf d.n ≤ 65536 := by unfold nbOf; omega
  have hin : 1 + i < d.n := by unfold nbOf at hi; omega
  have c47 := vHas i v commits turn next (some f) d.count d w h hd hn
  rw [show decide ((0 : Int) ≤ (i : Int) ∧ (i : Int) < (nbOf d.n : Nat)) = true by simp; omega] at c47
  have c13 := catchUp_idle v commits turn next (some f) d w h hd
  have c16 := fun W => homeOf_any i W (by omega)
  have HD : Hid (Dev w d) := hd
  have hhas := hF.has i (by omega)
  rw [hfr] at hhas
  have lk : ∀ k, ∃ p n c, (Instr.lookup 113 (.map (some f)) (.int .i64 i) true).run Tryz.prog (w.drewN k) = .ok (.tuple #[.slice p n c, .bool false]) (w.drewN k) := by
    intro k
    have hown : (w.drewN k).ownsMap Tryz.prog 3 slElem f nf F := hF.own
    obtain ⟨p, n, c, hrun, he⟩ := slook_ok hown (i := i) (by omega)
    rw [hhas] at hrun
    exact ⟨p, n, c, hrun⟩
  have x4 : ∀ k, (w.drewN k).cell? ⟨v, 4, none⟩ = some (.map (some f)) := fun k => by have := cellOf h 4; simpa [volCells] using this
  have x0 : ∀ k, (w.drewN k).cell? ⟨v, 0, none⟩ = some (dp d.a) := fun k => by have := cellOf h 0; simpa [volCells] using this
  clear h hd hF hhas hfr
  go_enter Tryz.func109, Tryz.ntmps109
  go_wp2_with (first
    | (go_at_call 116; refine Calls_on c47 ?_)
    | (go_at_call 123; refine c13.mono ?_; rintro e w1 ⟨rfl, k1, rfl⟩; clear c13; obtain ⟨p, n, c, lk'⟩ := lk k1; have x4' := x4 k1; clear lk x4))
  obtain ⟨W3, hW3⟩ : ∃ W3, W3 = w.drewN k1 := ⟨_, rfl⟩
  have x0' : W3.drew.cell? ⟨v, 0, none⟩ = some (dp d.a) := by rw [hW3]; exact x0 k1
  have c15' := dev_read d (1 + i) W3.drew (by rw [hW3]; exact (HD.out.drewN k1).drew) hin
  have B3 : Below w.heap.size w W3.drew := by rw [hW3]; exact (below_drewN (Below.refl _ w) k1).drew
  rw [← hW3]
  clear hW3 x0 x4' lk'
  go_region_with (first
    | (go_at_call 97; refine Calls_on (c16 _) ?_)
    | (go_at_call 75; refine c15'.mono ?_; rintro e w2 ⟨rfl, hb2, hB2⟩))
  all_goals go_wp2
  all_goals go_ret2
  all_goals exact ⟨_, rfl, bytes_block hb2, B3.trans (hB2.mono B3.size), B3.size, _, _, hb2⟩

/-- Read of a block, and where it lies. -/
theorem vReadT_any (i : Nat) (s : VS) (w : World) (h : VI w s) (hi : i < nbOf s.d.n) :
    Calls Tryz.prog 109 #[dp s.v, .int .i64 i] w fun e w' => ∃ g cp, e = .returned (.tuple #[.slice (some ⟨g, 0, none⟩) 512 cp, .int .i64 0]) ∧ 512 ≤ cp ∧ (s.cont i).length = 512 ∧ Bytes w' (some ⟨g, 0, none⟩) (s.cont i) ∧ Below w.heap.size w w' ∧ w.heap.size ≤ g ∧ ∃ cs fr, w'.heap[g]? = some (.cells cs 5 fr) := by
  cases hf : s.fr i with
  | none =>
    have hl : (s.d.B (1 + i)).length = 512 := h.dev.len _ (by have := h.n16; unfold nbOf at hi; omega)
    refine (vReadT_home i s.v s.commits s.turn s.next s.f s.nf s.F s.fr s.d w h.vol h.dev h.n16 h.fresh hi hf).mono ?_
    rintro e w' ⟨g, rfl, hb, hB, hg, ht⟩
    have e : s.cont i = s.d.B (1 + i) := by unfold VS.cont; rw [hf]; rfl
    rw [e]
    exact ⟨g, 512, rfl, Nat.le_refl _, hl, hb, hB, hg, ht⟩
  | some b =>
    refine (vReadT_fresh i b s.v s.commits s.turn s.next s.f s.nf s.F s.fr s.d w h.vol h.dev h.n16 h.fresh hi hf).mono ?_
    rintro e w' ⟨g, cp, rfl, hc, hl, hb, hB, hg, ht⟩
    have e : s.cont i = b := by unfold VS.cont; rw [hf]; rfl
    rw [e]
    exact ⟨g, cp, rfl, hc, hl, hb, hB, hg, ht⟩

end Go.Proofs.YtebdgcoandfocaaGreatDoor

/-
  A cache over a volume: what holds of both between the calls; hold of a block that is not held.
-/
namespace Go.Proofs.YtebdgcoandfocaaGreatDoor
open Go.RowKit Go.Maps Go.Sort Go.Shelf

/-- What hold makes of a cache where it takes a new entry. -/
structure Hn (w w' : World) (s : CS) (block a : Nat) (A1 I1 : List Nat) (out1 : Nat) (F : DataW Value) : Prop where
  cm : CM w' { s with nh := s.nh + 1, F := F, I := I1, A := A1 ++ [a], U := updU s.U a (newE block), out := out1 }
  ord : HeapF (kvOf (keyU s.U) I1) I1.length
  new : w.heap.size ≤ a
  sub : ∀ b, b ∈ A1 → b ∈ s.A
  ev : (s.A.length < s.room ∧ A1 = s.A ∧ I1 = s.I ∧ out1 = s.out) ∨ (s.room ≤ s.A.length ∧ ∃ o, o ∈ s.I ∧ (∀ b ∈ s.I, (s.U o).used ≤ (s.U b).used) ∧ A1 = s.A.filter (fun b => b != o) ∧ (∀ b, b ∈ I1 ↔ b ∈ s.I ∧ b ≠ o) ∧ out1 = s.out + 1)
  but : But (cMine w s.h) w w'

theorem bhold_any (s : CS) (block : Nat) (w : World) (h : CM w s) (hb : block < 1000000) (hno : ∀ a ∈ s.A, (s.U a).block ≠ block) (hr : s.room ≤ 4096) (ho : HeapF (kvOf (keyU s.U) s.I) s.I.length) (hout : s.out < 1000000) (hnh : s.nh < 1000000) (hroom : s.A.length < s.room ∨ 0 < s.I.length) :
    Calls Tryz.prog 107 #[ep s.c, .int .i64 (block : Nat)] w fun e w' => ∃ a A1 I1 out1 F, e = .returned (.tuple #[ep a, .int .i64 0]) ∧ Hn w w' s block a A1 I1 out1 F := by
  by_cases hlt : s.A.length < s.room
  · refine (hold_new s block w h hb hno (fun w1 s1 => s1 = s ∧ But (cMine w s.h) w w1) ?_).mono ?_
    · refine (makeRoom_yes s w h hlt hr).mono ?_
      rintro e w1 ⟨rfl, q, rfl⟩
      exact ⟨rfl, s, h.drewN q, rfl, rfl, fun _ h => h, rfl, hnh, rfl, ⟨rfl, rfl, rfl, Nat.le_refl _, fun _ _ _ => rfl⟩⟩
    · rintro e w' ⟨w1, s1, F, rfl, ⟨rfl, hB1⟩, _, cm2, hB2⟩
      exact ⟨w1.heap.size, s1.A, s1.I, s1.out, F, rfl, cm2, ho, hB1.size, fun _ h => h, .inl ⟨hlt, rfl, rfl, rfl⟩, cMine_trans hB1 hB2⟩
  · have hpos : 0 < s.I.length := hroom.resolve_left hlt
    refine (hold_new s block w h hb hno (fun w1 s1 => ∃ o, Mr w w1 s s1 o) ?_).mono ?_
    · refine (makeRoom_out s w h (by omega) hpos ho hout).mono ?_
      rintro e w1 ⟨rfl, o, s1, hM⟩
      obtain ⟨F, I', rfl⟩ := hM.eq
      exact ⟨rfl, _, hM.cm, rfl, rfl, fun a ha => (List.mem_filter.1 ha).1, rfl, hnh, o, hM⟩
    · rintro e w' ⟨w1, s1, F, rfl, ⟨o, hM⟩, _, cm2, hB2⟩
      obtain ⟨F1, I', rfl⟩ := hM.eq
      refine ⟨w1.heap.size, _, I', s.out + 1, F, rfl, cm2, hM.ord, hM.but.size, fun b hb => (List.mem_filter.1 hb).1, .inr ⟨by omega, o, hM.inI, hM.least, rfl, hM.mem, rfl⟩, cMine_trans hM.but hB2⟩

/-- Where the bytes of a cache's entries lie: X. -/
def Lk (s : CS) (X : Nat → Prop) : Prop := ∀ a ∈ s.A, ∀ g o f, (s.U a).p = some ⟨g, o, f⟩ → X g
/-- An entry's bytes. -/
def DatAt (w : World) (e : EV) (b : By) : Prop := e.n = 512 ∧ b.length = 512 ∧ 512 ≤ e.cp ∧ ∃ g, e.p = some ⟨g, 0, none⟩ ∧ Bytes w (some ⟨g, 0, none⟩) b ∧ ∃ cs fr, w.heap[g]? = some (.cells cs 5 fr)
theorem bytes_but {w w' : World} {g : Nat} {b : By} {S : Nat → Prop} (hbb : Bytes w (some ⟨g, 0, none⟩) b) (ht : ∃ cs fr, w.heap[g]? = some (.cells cs 5 fr)) (hb : But S w w') (hS : ∀ k cs fr, w.heap[k]? = some (.cells cs 5 fr) → ¬ S k) : Bytes w' (some ⟨g, 0, none⟩) b ∧ ∃ cs fr, w'.heap[g]? = some (.cells cs 5 fr) := by
  obtain ⟨cs, fr, ht⟩ := ht
  have hk := hb.block g (Array.getElem?_eq_some_iff.1 ht).1 (hS g cs fr ht)
  refine ⟨fun hp => ?_, cs, fr, hk.trans ht⟩
  obtain ⟨g', o', e, hx⟩ := hbb hp
  cases e
  exact ⟨g, 0, rfl, fun j x hj => (World.cell?_of_block (w := w) hk).trans (hx j x hj)⟩
theorem DatAt.but {w w' : World} {e : EV} {b : By} (h : DatAt w e b) {S : Nat → Prop} (hb : But S w w') (hS : ∀ k cs fr, w.heap[k]? = some (.cells cs 5 fr) → ¬ S k) : DatAt w' e b := by
  obtain ⟨h1, h2, h3, g, hg, hbb, ht⟩ := h
  obtain ⟨k1, k2⟩ := bytes_but hbb ht hb hS
  exact ⟨h1, h2, h3, g, hg, k1, k2⟩

/-- A cache and its volume, but for the rank of the entries of ex. -/
structure CX (ex : Nat → Prop) (w : World) (s : CS) (vs : VS) (B : Nat → By) : Prop where
  cm : CM w s
  vi : VI w vs
  vv : s.v = vs.v
  hf : s.h ≠ vs.f
  hd : s.h ≠ vs.d.m
  dat : ∀ a ∈ s.A, DatAt w (s.U a) (B a)
  hx : ∀ a, ex a → HX s a
  ord : (∀ a, ¬ ex a) → HeapF (kvOf (keyU s.U) s.I) s.I.length
  idle : ∀ b, ¬ ex b → (b ∈ s.I ↔ b ∈ s.A ∧ idleE (s.U b) = true)
  dirty : ∀ b, b ∈ s.D ↔ b ∈ s.A ∧ (s.U b).dirty = true
  dnd : s.D.Nodup
  used : ∀ b ∈ s.A, ¬ ex b → (s.U b).used ≤ s.uses
  uinj : ∀ b ∈ s.A, ∀ c ∈ s.A, ¬ ex b → ¬ ex c → (s.U b).used = (s.U c).used → b = c
  blk : ∀ b ∈ s.A, (s.U b).block < nbOf vs.d.n
  clean : ∀ b ∈ s.A, (s.U b).dirty = false → B b = vs.cont (s.U b).block
  room : 1 ≤ s.room ∧ s.room ≤ 4096 ∧ s.A.length ≤ s.room

abbrev CI := CX (fun _ => False)
/-- How much was done. -/
structure CB (s : CS) (b : Nat) : Prop where
  nh : s.nh ≤ b
  uses : s.uses ≤ b
  met : s.met ≤ b
  missed : s.missed ≤ b
  out : s.out ≤ b

theorem CX.nb {ex : Nat → Prop} {w : World} {s : CS} {vs : VS} {B : Nat → By} (h : CX ex w s vs B) : nbOf vs.d.n ≤ 223 := by have := h.vi.n200; unfold nbOf; omega
theorem vi_but {w w' : World} {s : VS} (h : VI w s) {S : Nat → Prop} (hb : But S w w') (hS : ∀ k, s.mine k → ¬ S k) (h5 : ∀ g cs t fr, w.heap[g]? = some (.cells cs t fr) → t = 5 ∨ t = 158 → ¬ S g) : VI w' s :=
  ⟨h.vol.but hb (hS _ (.inl rfl)), h.dev.but hb (fun k hk => hS k (.inr (.inr hk))) (fun g _ hg => h5 g _ _ _ hg (.inr rfl)), h.fresh.but hb (hS _ (.inr (.inl rfl))) (fun k cs fr hk => h5 k cs 5 fr hk (.inl rfl)), h.fm, h.fused, h.n16, h.n200, h.lg⟩
/-- A cache's steps turn nothing of its volume, and no bytes. -/
theorem CX.noMine {ex : Nat → Prop} {w : World} {s : CS} {vs : VS} {B : Nat → By} (h : CX ex w s vs B) : (∀ k, vs.mine k → ¬ cMine w s.h k) ∧ (∀ g cs t fr, w.heap[g]? = some (.cells cs t fr) → t = 5 ∨ t = 158 → ¬ cMine w s.h g) := by
  refine ⟨fun k hk hm => ?_, fun g cs t fr hg ht hm => ?_⟩
  · rcases hm with e | ⟨_, cs, t, fr, hb, ht⟩
    · rcases hk with e' | e' | e' | e' | e'
      · exact h.cm.hne h.vi.vol (e ▸ e')
      · exact h.hf (e ▸ e')
      · exact h.cm.hne h.vi.dev.dev (e ▸ e')
      · obtain ⟨_, hr, _⟩ := h.vi.dev.row
        exact h.cm.hne hr (e ▸ e')
      · exact h.hd (e ▸ e')
    · refine h.vi.other hb ?_ ?_ ?_ hk
      · rcases ht with rfl | rfl | rfl <;> decide
      · rcases ht with rfl | rfl | rfl <;> decide
      · rcases ht with rfl | rfl | rfl <;> decide
  · rcases hm with rfl | ⟨_, cs', t', fr', hb, ht'⟩
    · exact h.cm.hne hg rfl
    · rw [hg] at hb
      simp only [Option.some.injEq, Obj.cells.injEq] at hb
      obtain ⟨_, rfl, _⟩ := hb
      rcases ht with rfl | rfl <;> rcases ht' with h' | h' | h' <;> exact absurd h' (by decide)
theorem CX.keep {ex : Nat → Prop} {w w' : World} {s : CS} {vs : VS} {B : Nat → By} (h : CX ex w s vs B) (hb : But (cMine w s.h) w w') : VI w' vs ∧ ∀ e b, DatAt w e b → DatAt w' e b :=
  ⟨vi_but h.vi hb h.noMine.1 h.noMine.2, fun _ _ hd => hd.but hb fun k cs fr hk => h.noMine.2 k cs 5 fr hk (.inl rfl)⟩
theorem CX.below {ex : Nat → Prop} {w w' : World} {s : CS} {vs : VS} {B : Nat → By} (h : CX ex w s vs B) (hb : Below w.heap.size w w') : CX ex w' s vs B :=
  ⟨h.cm.below hb, h.vi.below hb, h.vv, h.hf, h.hd, fun a ha => (h.dat a ha).but (S := fun _ => False) (But.of_below hb) (fun _ _ _ _ h => h), h.hx, h.ord, h.idle, h.dirty, h.dnd, h.used, h.uinj, h.blk, h.clean, h.room⟩

end Go.Proofs.YtebdgcoandfocaaGreatDoor
