/-
  fresh of the law: a device with a volume of zeros, and its model.
-/
import Derived.Test.YtdepdcndfofknaaGreatDoorWga
import Derived.BigRegion

/-
  A volume and its log as one word: what holds of them between the calls.
-/
namespace Go.Proofs.YtdepdcndfofknaaGreatDoor
open Go.RowKit Go.Maps Go.Sort Go.Shelf

/-- Where the log's records end. -/
def logEnd : Nat → List Rec → Nat
  | at_, [] => at_
  | at_, ps :: rs => logEnd (at_ + pagesFor ps.length) rs
theorem logEnd_snoc (ps : Rec) : ∀ (rs : List Rec) (at_ : Nat), logEnd at_ (rs ++ [ps]) = logEnd at_ rs + pagesFor ps.length
  | [], _ => rfl
  | _ :: rs, _ => logEnd_snoc ps rs _
theorem logEnd_ge : ∀ (rs : List Rec) (at_ : Nat), at_ ≤ logEnd at_ rs
  | [], _ => Nat.le_refl _
  | _ :: rs, _ => Nat.le_trans (Nat.le_add_right _ _) (logEnd_ge rs _)
theorem LogIs.endLe {B : Nat → By} {n nb t : Nat} : ∀ {rs : List Rec} {at_ : Nat}, LogIs B n nb t at_ rs → logEnd at_ rs ≤ n
  | [], _, h => h.1
  | p :: rs, at_, h => show logEnd (at_ + pagesFor p.length) rs ≤ n from LogIs.endLe h.2.2.2
theorem LogIs.snoc {B B' : Nat → By} {n nb t : Nat} {ps : Rec} (hps : okRec nb ps) : ∀ {rs : List Rec} {at_ : Nat}, LogIs B n nb t at_ rs → (∀ j, at_ ≤ j → j < logEnd at_ rs → B' j = B j) → logEnd at_ rs + pagesFor ps.length ≤ n →
    (∀ i, i < pagesFor ps.length → B' (logEnd at_ rs + i) = pageB t ps i) → (logEnd at_ rs + pagesFor ps.length < n → OldB t (B' (logEnd at_ rs + pagesFor ps.length))) → LogIs B' n nb t at_ (rs ++ [ps])
  | [], _, _, _, h2, h3, h4 => ⟨hps, h2, h3, h2, h4⟩
  | p :: rs, at_, h, h1, h2, h3, h4 => by
    have hge := logEnd_ge rs (at_ + pagesFor p.length)
    refine ⟨h.1, h.2.1, fun i hi => ?_, LogIs.snoc hps h.2.2.2 (fun j hj hj' => h1 j (by omega) hj') h2 h3 h4⟩
    rw [h1 (at_ + i) (by omega) (by show at_ + i < logEnd (at_ + pagesFor p.length) rs; omega)]
    exact h.2.2.1 i hi

theorem laidOn_over (st : Nat → Option By) (ps : Rec) (i : Nat) : laidOn st ps i = (laidOn (fun _ => none) ps i).or (st i) := by
  induction ps generalizing st with
  | nil => simp [laidOn]
  | cons p ps ih =>
    have e : ∀ s : Nat → Option By, laidOn s (p :: ps) = laidOn (fun j => if j = p.1 then some p.2 else s j) ps := fun _ => rfl
    rw [e, e, ih, ih (fun j => if j = p.1 then some p.2 else none)]
    by_cases h : i = p.1
    · simp [h]
    · simp [h]
theorem laidOn_high {nb : Nat} (st : Nat → Option By) (hst : ∀ i, nb ≤ i → st i = none) (ps : Rec) (hps : ∀ p ∈ ps, p.1 < nb) (i : Nat) (hi : nb ≤ i) : laidOn st ps i = none := by
  induction ps generalizing st with
  | nil => exact hst i hi
  | cons p ps ih =>
    have e : laidOn st (p :: ps) = laidOn (fun j => if j = p.1 then some p.2 else st j) ps := rfl
    rw [e]
    refine ih _ (fun j hj => ?_) (fun q hq => hps q (by simp [hq]))
    have := hps p (by simp)
    rw [if_neg (by omega)]
    exact hst j hj

theorem laidP_lt (B : Nat → By) {nx j : Nat} (pg : List By) (h : j < nx) : laidP B nx pg j = B j := by unfold laidP; rw [if_neg (by omega)]
theorem laidP_ge (B : Nat → By) {nx j : Nat} (pg : List By) (h : nx + pg.length ≤ j) : laidP B nx pg j = B j := by
  unfold laidP
  rw [if_pos (by omega), List.getElem?_eq_none (by omega)]
  rfl
theorem laidP_at (B : Nat → By) (nx i K : Nat) (g : Nat → By) (h : i < K) : laidP B nx ((List.range K).map g) (nx + i) = g i := by
  unfold laidP
  rw [if_pos (by omega), show nx + i - nx = i by omega, List.getElem?_map, List.getElem?_range h]
  rfl

/-- A volume: where its parts lie, and what they hold. -/
structure VS where
  v : Nat
  f : Nat
  nf : Nat
  commits : Nat
  turn : Nat
  next : Nat
  F : DataW Value
  fr : Nat → Option By
  d : DS
  recs : List Rec

/-- What a block of the volume is. -/
def VS.cont (s : VS) (i : Nat) : By := (s.fr i).getD (s.d.B (1 + i))

/-- The log is whole. -/
structure Log (s : VS) : Prop where
  fr : s.fr = laidOn (fun _ => none) s.recs.flatten
  nb : ∀ i, nbOf s.d.n ≤ i → s.fr i = none
  len : s.recs.length ≤ s.commits
  head : s.d.B 0 = headB s.turn (s.commits - s.recs.length) s.d.n
  log : LogIs s.d.B s.d.n (nbOf s.d.n) s.turn (1 + nbOf s.d.n) s.recs
  next : s.next = s.d.n ∨ s.next = logEnd (1 + nbOf s.d.n) s.recs
  old : ∀ j, 1 + nbOf s.d.n ≤ j → j < s.d.n → OldB (s.turn + 1) (s.d.B j)
  old2 : ∀ j, logEnd (1 + nbOf s.d.n) s.recs ≤ j → j < s.d.n → OldB s.turn (s.d.B j)

structure VI (w : World) (s : VS) : Prop where
  vol : IsVol w s.v (dp s.d.a) s.commits s.turn s.next (some s.f) s.d.count
  dev : Dev w s.d
  fresh : Fresh w s.f s.nf s.F s.fr
  fm : s.f ≠ s.d.m
  fused : s.d.fused = false
  n16 : 16 ≤ s.d.n
  n200 : s.d.n ≤ 200
  lg : Log s

/-- How much was done. -/
structure Bud (s : VS) (b : Nat) : Prop where
  nf : s.nf ≤ b * 100
  count : s.d.count ≤ b * 1000
  commits : s.commits ≤ b
  turn : s.turn ≤ b + 1

/-- The blocks that a call of the volume may turn. -/
def VS.mine (s : VS) : Nat → Prop := fun k => k = s.v ∨ k = s.f ∨ s.d.mine k

/-- From a state of the volume to a later one. -/
structure Step (w w' : World) (s s' : VS) : Prop where
  v : s'.v = s.v
  near : Near w s.d s'.d
  f : s'.f = s.f ∨ w.heap.size ≤ s'.f
  n : s'.d.n = s.d.n
  but : But s.mine w w'

theorem VI.mapAt {w : World} {s : VS} (h : VI w s) : ∃ es clock, w.heap[s.f]? = some (.map es clock) := by
  obtain ⟨es, clock, hm, _⟩ := h.fresh.own
  exact ⟨es, clock, hm⟩
theorem VI.fmine {w : World} {s : VS} (h : VI w s) : ¬ (s.f = s.v ∨ s.d.mine s.f) := by
  obtain ⟨es, clock, hm⟩ := h.mapAt
  rintro (e | e | e | e)
  · exact map_cells_ne hm h.vol e
  · exact map_cells_ne hm h.dev.dev e
  · obtain ⟨_, hr, _⟩ := h.dev.row; exact map_cells_ne hm hr e
  · exact h.fm e
/-- Cells of other types are none of the volume's. -/
theorem VI.other {w : World} {s : VS} (h : VI w s) {k : Nat} {cs : Array Value} {t : TypeId} {fr : Nat × Nat} (hk : w.heap[k]? = some (.cells cs t fr)) (h1 : t ≠ 118) (h2 : t ≠ 115) (h3 : t ≠ 104) : ¬ s.mine k := by
  rintro (rfl | rfl | hm)
  · have := h.vol; rw [IsVol, hk] at this; simp at this; exact h3 this.2.1
  · obtain ⟨es, clock, hm⟩ := h.mapAt; rw [hm] at hk; cases hk
  · exact h.dev.other hk h1 h2 hm
theorem VI.below {w w' : World} {s : VS} (h : VI w s) (hb : Below w.heap.size w w') : VI w' s :=
  ⟨h.vol.below hb, h.dev.below hb, h.fresh.below hb, h.fm, h.fused, h.n16, h.n200, h.lg⟩

theorem recOf_ok {nb : Nat} {pm : List PutM} (hg : pm.all (goodPut nb) = true) (hl1 : 1 ≤ pm.length) (hl2 : pm.length ≤ nb) : okRec nb (recOf pm) := by
  refine ⟨by simpa [recOf] using hl1, by simpa [recOf] using hl2, fun p hp => ?_⟩
  obtain ⟨x, hx, rfl⟩ := List.mem_map.1 hp
  have := (List.all_eq_true.1 hg) x hx
  unfold goodPut at this
  simp at this
  exact ⟨by omega, this.2⟩

/-- The log behind a commit with room left. -/
theorem Log.room {s : VS} (h : Log s) {rc : Rec} (hrc : okRec (nbOf s.d.n) rc) (hnx : s.next = logEnd (1 + nbOf s.d.n) s.recs) (hfit : s.next + pagesFor rc.length ≤ s.d.n) (ht : s.turn < 10000000) (f nf : Nat) (F : DataW Value) (d : DS) (hn : d.n = s.d.n)
    (hB : d.B = laidP s.d.B s.next ((List.range (pagesFor rc.length)).map fun k => pageB s.turn rc k)) :
    Log ⟨s.v, f, nf, s.commits + 1, s.turn, s.next + pagesFor rc.length, F, laidOn s.fr rc, d, s.recs ++ [rc]⟩ ∧
      ∀ i, i < nbOf s.d.n → VS.cont ⟨s.v, f, nf, s.commits + 1, s.turn, s.next + pagesFor rc.length, F, laidOn s.fr rc, d, s.recs ++ [rc]⟩ i = (laidOn (fun _ => none) rc i).getD (s.cont i) := by
  have hge := logEnd_ge s.recs (1 + nbOf s.d.n)
  have hlen := h.len
  have hlt : ∀ j, j < s.next → d.B j = s.d.B j := fun j hj => by rw [hB, laidP_lt _ _ hj]
  have hat : ∀ i, i < pagesFor rc.length → d.B (s.next + i) = pageB s.turn rc i := fun i hi => by rw [hB, laidP_at _ _ _ _ _ hi]
  have hgt : ∀ j, s.next + pagesFor rc.length ≤ j → d.B j = s.d.B j := fun j hj => by rw [hB, laidP_ge _ _ (by simpa using hj)]
  have h512 : ∀ p ∈ rc, p.2.length = 512 := fun p hp => (hrc.2.2 p hp).2
  constructor
  · refine ⟨?_, ?_, ?_, ?_, ?_, .inr ?_, ?_, ?_⟩
    · show laidOn s.fr rc = laidOn _ (s.recs ++ [rc]).flatten
      rw [List.flatten_append, laidOn_append, ← h.fr]
      simp
    · intro i hi
      exact laidOn_high _ h.nb rc (fun p hp => (hrc.2.2 p hp).1) i (by rw [← hn]; exact hi)
    · show (s.recs ++ [rc]).length ≤ s.commits + 1
      simp; omega
    · show d.B 0 = headB s.turn (s.commits + 1 - (s.recs ++ [rc]).length) d.n
      rw [hlt 0 (by omega), h.head, hn]
      have e : s.commits + 1 - (s.recs ++ [rc]).length = s.commits - s.recs.length := by rw [List.length_append, List.length_singleton]; omega
      rw [e]
    · show LogIs d.B d.n (nbOf d.n) s.turn (1 + nbOf d.n) (s.recs ++ [rc])
      rw [hn]
      refine LogIs.snoc hrc h.log (fun j _ hj => hlt j (by omega)) (by omega) (fun i hi => ?_) (fun hx => ?_)
      · rw [← hnx]; exact hat i hi
      · rw [← hnx, hgt _ (Nat.le_refl _)]
        exact h.old2 _ (by omega) (by omega)
    · show s.next + pagesFor rc.length = logEnd (1 + nbOf d.n) (s.recs ++ [rc])
      rw [logEnd_snoc, hn, hnx]
    · intro j hj hj'
      have hj1 : 1 + nbOf s.d.n ≤ j := by rw [← hn]; exact hj
      have hj2 : j < s.d.n := by rw [← hn]; exact hj'
      show OldB (s.turn + 1) (d.B j)
      by_cases c1 : j < s.next
      · rw [hlt j c1]; exact h.old j hj1 hj2
      · by_cases c2 : s.next + pagesFor rc.length ≤ j
        · rw [hgt j c2]; exact h.old j hj1 hj2
        · rw [show j = s.next + (j - s.next) by omega, hat _ (by omega)]
          exact oldB_page _ (by omega) _ h512 _ (by omega)
    · intro j hj hj'
      have hj1 : logEnd (1 + nbOf s.d.n) (s.recs ++ [rc]) ≤ j := by rw [← hn]; exact hj
      have hj2 : j < s.d.n := by rw [← hn]; exact hj'
      rw [logEnd_snoc] at hj1
      show OldB s.turn (d.B j)
      rw [hgt j (by omega)]
      exact h.old2 j (by omega) hj2
  · intro i hi
    show (laidOn s.fr rc i).getD (d.B (1 + i)) = _
    rw [laidOn_over, hlt (1 + i) (by omega)]
    unfold VS.cont
    cases laidOn (fun _ => none) rc i <;> rfl

/-- The log behind a commit ahead of which it was begun anew. -/
theorem Log.again {s : VS} (h : Log s) {rc : Rec} (hrc : okRec (nbOf s.d.n) rc) (hfit : 1 + nbOf s.d.n + pagesFor rc.length ≤ s.d.n) (ht : s.turn < 10000000) (f nf : Nat) (F : DataW Value) (d3 d : DS) (ha : Anew s.d d3 s.fr s.commits s.turn) (hn : d.n = s.d.n)
    (hB : d.B = laidP d3.B (1 + nbOf s.d.n) ((List.range (pagesFor rc.length)).map fun k => pageB (s.turn + 1) rc k)) :
    Log ⟨s.v, f, nf, s.commits + 1, s.turn + 1, 1 + nbOf s.d.n + pagesFor rc.length, F, laidOn (fun _ => none) rc, d, [rc]⟩ ∧
      ∀ i, i < nbOf s.d.n → VS.cont ⟨s.v, f, nf, s.commits + 1, s.turn + 1, 1 + nbOf s.d.n + pagesFor rc.length, F, laidOn (fun _ => none) rc, d, [rc]⟩ i = (laidOn (fun _ => none) rc i).getD (s.cont i) := by
  have hlt : ∀ j, j < 1 + nbOf s.d.n → d.B j = d3.B j := fun j hj => by rw [hB, laidP_lt _ _ hj]
  have hat : ∀ i, i < pagesFor rc.length → d.B (1 + nbOf s.d.n + i) = pageB (s.turn + 1) rc i := fun i hi => by rw [hB, laidP_at _ _ _ _ _ hi]
  have hgt : ∀ j, 1 + nbOf s.d.n + pagesFor rc.length ≤ j → d.B j = s.d.B j := fun j hj => by
    rw [hB, laidP_ge _ _ (by simpa using hj), ha.B]
    unfold upd homed
    rw [if_neg (by omega), if_pos (by omega), h.nb _ (by omega)]
    rfl
  have h512 : ∀ p ∈ rc, p.2.length = 512 := fun p hp => (hrc.2.2 p hp).2
  constructor
  · refine ⟨?_, ?_, ?_, ?_, ?_, .inr ?_, ?_, ?_⟩
    · show laidOn _ rc = laidOn _ ([rc] : List Rec).flatten
      simp
    · intro i hi
      exact laidOn_high _ (fun _ _ => rfl) rc (fun p hp => (hrc.2.2 p hp).1) i (by rw [← hn]; exact hi)
    · show 1 ≤ s.commits + 1
      omega
    · show d.B 0 = headB (s.turn + 1) (s.commits + 1 - 1) d.n
      rw [hlt 0 (by omega), ha.B, hn]
      simp [upd]
    · show LogIs d.B d.n (nbOf d.n) (s.turn + 1) (1 + nbOf d.n) [rc]
      rw [hn]
      refine ⟨hrc, hfit, hat, hfit, fun hx => ?_⟩
      rw [hgt _ (Nat.le_refl _)]
      exact h.old _ (by omega) hx
    · show _ = logEnd (1 + nbOf d.n) [rc]
      rw [hn]; rfl
    · intro j hj hj'
      have hj1 : 1 + nbOf s.d.n ≤ j := by rw [← hn]; exact hj
      have hj2 : j < s.d.n := by rw [← hn]; exact hj'
      show OldB (s.turn + 1 + 1) (d.B j)
      by_cases c2 : 1 + nbOf s.d.n + pagesFor rc.length ≤ j
      · rw [hgt j c2]; exact (h.old j hj1 hj2).mono (by omega)
      · rw [show j = 1 + nbOf s.d.n + (j - (1 + nbOf s.d.n)) by omega, hat _ (by omega)]
        exact oldB_page _ (by omega) _ h512 _ (by omega)
    · intro j hj hj'
      have hj1 : 1 + nbOf s.d.n + pagesFor rc.length ≤ j := by rw [← hn]; exact hj
      have hj2 : j < s.d.n := by rw [← hn]; exact hj'
      show OldB (s.turn + 1) (d.B j)
      rw [hgt j hj1]
      exact h.old j (by omega) hj2
  · intro i hi
    show (laidOn (fun _ => none) rc i).getD (d.B (1 + i)) = _
    rw [hlt (1 + i) (by omega), ha.B]
    unfold VS.cont upd homed
    rw [if_neg (by omega), if_pos (by omega), show 1 + i - 1 = i by omega]

end Go.Proofs.YtdepdcndfofknaaGreatDoor

/-
  Commit, Sync, Read and Commits of a volume, over its state.
-/
namespace Go.Proofs.YtdepdcndfofknaaGreatDoor
open Go.RowKit Go.Maps Go.Sort Go.Shelf

theorem fits_always {n k : Nat} (h1 : 16 ≤ n) (h2 : k ≤ nbOf n) : 1 + nbOf n + pagesFor k ≤ n := by unfold nbOf pagesFor at *; omega

set_option maxRecDepth 8000 in
set_option maxHeartbeats 1000000 in
theorem vCommit_any (q : Option Addr) (pm : List PutM) (c : Nat) (s : VS) (b : Nat) (w : World) (h : VI w s) (ht : Tab w) (hz : Bud s b) (hb : b ≤ 1000)
    (hps : PutsAt w q pm) (hg : pm.all (goodPut (nbOf s.d.n)) = true) (hl1 : 1 ≤ pm.length) (hl2 : pm.length ≤ nbOf s.d.n) :
    Calls Tryz.prog 42 #[dp s.v, .slice q pm.length c] w fun e w' => e = .returned (.int .i64 0) ∧ ∃ s', VI w' s' ∧ Step w w' s s' ∧ Bud s' (b + 1) ∧ s'.commits = s.commits + 1 ∧ ∀ i, i < nbOf s.d.n → s'.cont i = (laidOn (fun _ => none) (recOf pm) i).getD (s.cont i) := by
  have hrc := recOf_ok hg hl1 hl2
  have hrl : (recOf pm).length = pm.length := by simp [recOf]
  have hn200 := h.n200
  have hn16 := h.n16
  have hnb : nbOf s.d.n ≤ 48 := by unfold nbOf; omega
  have hfit := fits_always hn16 hl2
  have hkl := homeKeys_len s.fr (nbOf s.d.n)
  obtain ⟨z1, z2, z3, z4⟩ := hz
  have hlen := h.lg.len
  by_cases hroom : s.next + pagesFor pm.length ≤ s.d.n
  · have hnx : s.next = logEnd (1 + nbOf s.d.n) s.recs := by
      rcases h.lg.next with e | e
      · have := pagesFor_pos pm.length; omega
      · exact e
    obtain ⟨es, clock, hm⟩ := h.mapAt
    have hflt := (Array.getElem?_eq_some_iff.1 hm).1
    refine (vCommit_core q pm c s.v s.commits s.turn s.next s.f (fun d' T NX nf' fr' => T = s.turn ∧ NX = s.next + pagesFor pm.length ∧ nf' = s.nf ∧ fr' = s.fr ∧ d'.B = laidP s.d.B s.next ((List.range (pagesFor pm.length)).map fun k => pageB s.turn (recOf pm) k) ∧ d'.count = s.d.count + pagesFor pm.length) s.d w h.vol h.dev hn16 hps hg hl1 hl2 (by omega) h.fused ?_).mono ?_
    · intro W hW
      have hI := h.below hW
      have hmW : W.heap[s.f]? = some (.map es clock) := (hW.block _ hflt).trans hm
      refine (write_room q pm c s.v s.commits s.turn s.next s.f es clock s.d.count s.d W hI.vol hI.dev (below_tab hW ht.lt ht) hn16 (hps.but (But.of_below (S := fun _ => False) hW) (fun k cs t fr hk ht => not_false)) hg hl2 hroom hmW h.fm (by omega) h.fused (by omega)).mono ?_
      rintro e w' ⟨rfl, d', hR⟩
      refine ⟨rfl, d', s.turn, _, s.f, s.nf, s.d.count, s.F, s.fr, ⟨hR.vol, hI.fresh.but hR.but hI.fmine (fun k cs fr hk => away hI.vol hI.dev hk (by decide) (by decide) (by decide)), by omega, hR.fm, .inl rfl, hR.dev, hR.n, hR.fused, hR.near, hR.but⟩, rfl, rfl, rfl, rfl, hR.B, hR.count⟩
    · rintro e w' ⟨rfl, d', T, NX, f', nf', F', fr', hC, rfl, rfl, rfl, rfl, hB, hcnt⟩
      rw [← hrl] at hB
      obtain ⟨hlog, hcont⟩ := h.lg.room hrc hnx (by rw [hrl]; exact hroom) (by omega) f' (s.nf + pm.length) F' d' hC.n hB
      rw [hrl] at hlog hcont
      refine ⟨rfl, ⟨s.v, f', s.nf + pm.length, s.commits + 1, s.turn, s.next + pagesFor pm.length, F', laidOn s.fr (recOf pm), d', s.recs ++ [recOf pm]⟩, ⟨?_, hC.dev, hC.fresh, hC.fm, hC.fused.trans h.fused, by rw [hC.n]; exact hn16, by rw [hC.n]; exact hn200, hlog⟩, ⟨rfl, hC.near, hC.new, hC.n, hC.but⟩, ⟨?_, ?_, ?_, ?_⟩, rfl, hcont⟩
      · have := hC.vol
        rw [← hC.near.a] at this
        exact this
      · show s.nf + pm.length ≤ _
        omega
      · show d'.count ≤ _
        have : pagesFor pm.length ≤ 200 := by omega
        omega
      · show s.commits + 1 ≤ _
        omega
      · show s.turn ≤ _
        omega
  · refine (vCommit_core q pm c s.v s.commits s.turn s.next s.f (fun d' T NX nf' fr' => T = s.turn + 1 ∧ NX = 1 + nbOf s.d.n + pagesFor pm.length ∧ nf' = 0 ∧ fr' = (fun _ => none) ∧ ∃ d3, Anew s.d d3 s.fr s.commits s.turn ∧ d'.B = laidP d3.B (1 + nbOf s.d.n) ((List.range (pagesFor pm.length)).map fun k => pageB (s.turn + 1) (recOf pm) k) ∧ d'.count = d3.count + pagesFor pm.length) s.d w h.vol h.dev hn16 hps hg hl1 hl2 (by omega) h.fused ?_).mono ?_
    · intro W hW
      have hI := h.below hW
      have hnext : s.next ≤ s.d.n := by
        rcases h.lg.next with e | e
        · omega
        · rw [e]; exact h.lg.log.endLe
      refine (write_anew q pm c s.v s.commits s.turn s.next s.f (s.turn + 1) (1 + nbOf s.d.n) s.d.count 0 (fun d3 => Anew s.d d3 s.fr s.commits s.turn) s.d W hI.vol hI.dev (below_tab hW ht.lt ht) hn16 (hps.but (But.of_below (S := fun _ => False) hW) (fun k cs t fr hk ht => not_false)) hg hl2 (by omega) hnext hfit (by omega) h.fused ?_).mono ?_
      · intro w2 hB2
        have hI2 := hI.below hB2
        have htW := below_tab hW ht.lt ht
        exact restart_any s.v s.commits s.turn s.next s.f s.nf s.d.count s.F s.fr s.d w2 hI2.vol hI2.dev (below_tab hB2 htW.lt htW) hn16 hI2.fresh h.fm h.lg.nb (by omega) (by omega) (by omega) h.fused (by omega)
      · rintro e w' ⟨rfl, d3, d', f', ⟨hnew, hA⟩, hR⟩
        exact ⟨rfl, d', s.turn + 1, _, f', 0, 0, .map [], fun _ => none, ⟨hR.vol, Fresh.empty hR.map, by omega, hR.fm, .inr hnew, hR.dev, hR.n, hR.fused, hR.near, hR.but⟩, rfl, rfl, rfl, rfl, d3, hA, hR.B, hR.count⟩
    · rintro e w' ⟨rfl, d', T, NX, f', nf', F', fr', hC, rfl, rfl, rfl, rfl, d3, hA, hB, hcnt⟩
      rw [← hrl] at hB
      obtain ⟨hlog, hcont⟩ := h.lg.again hrc (by rw [hrl]; exact hfit) (by omega) f' (0 + pm.length) F' d3 d' hA hC.n hB
      rw [hrl] at hlog hcont
      have hAc := hA.count
      refine ⟨rfl, ⟨s.v, f', 0 + pm.length, s.commits + 1, s.turn + 1, 1 + nbOf s.d.n + pagesFor pm.length, F', laidOn (fun _ => none) (recOf pm), d', [recOf pm]⟩, ⟨?_, hC.dev, hC.fresh, hC.fm, hC.fused.trans h.fused, by rw [hC.n]; exact hn16, by rw [hC.n]; exact hn200, hlog⟩, ⟨rfl, hC.near, hC.new, hC.n, hC.but⟩, ⟨?_, ?_, ?_, ?_⟩, rfl, hcont⟩
      · have := hC.vol
        rw [← hC.near.a] at this
        exact this
      · show 0 + pm.length ≤ _
        omega
      · show d'.count ≤ _
        have : pagesFor pm.length ≤ 200 := by omega
        omega
      · show s.commits + 1 ≤ _
        omega
      · show s.turn + 1 ≤ _
        omega

/-- Sync. -/
theorem vSync_any (s : VS) (b : Nat) (w : World) (h : VI w s) (hz : Bud s b) (hb : b ≤ 1000) :
    Calls Tryz.prog 38 #[dp s.v] w fun e w' => e = .returned (.int .i64 0) ∧ ∃ s', VI w' s' ∧ Step w w' s s' ∧ Bud s' (b + 1) ∧ s'.commits = s.commits ∧ (∀ i, s'.cont i = s.cont i) ∧ s'.d.D = .map [] := by
  obtain ⟨z1, z2, z3, z4⟩ := hz
  refine (vSync_ok s.v s.commits s.turn s.next (some s.f) s.d w h.vol h.dev (fun hf => by rw [h.fused] at hf; cases hf) (by omega)).mono ?_
  rintro e w' ⟨m, rfl, hm, hv, hd, hbut⟩
  have hflt := h.fresh.own.lt
  refine ⟨rfl, ⟨s.v, s.f, s.nf, s.commits, s.turn, s.next, s.F, s.fr, s.d.flushed m, s.recs⟩, ⟨hv, hd, h.fresh.but hbut h.fmine (fun k cs fr hk => away h.vol h.dev hk (by decide) (by decide) (by decide)), ?_, h.fused, h.n16, h.n200, ⟨h.lg.fr, h.lg.nb, h.lg.len, h.lg.head, h.lg.log, h.lg.next, h.lg.old, h.lg.old2⟩⟩, ⟨rfl, Near.flushed hm, .inl rfl, rfl, hbut.mono (fun k _ hk => by rcases hk with e | e; exact .inl e; exact .inr (.inr e))⟩, ⟨?_, ?_, ?_, ?_⟩, rfl, fun _ => rfl, rfl⟩
  · show s.f ≠ m
    omega
  · show s.nf ≤ _
    omega
  · show s.d.count + 1 ≤ _
    omega
  · show s.commits ≤ _
    omega
  · show s.turn ≤ _
    omega

/-- Read of a block. -/
theorem vRead_any (i : Nat) (s : VS) (w : World) (h : VI w s) (hi : i < nbOf s.d.n) :
    Calls Tryz.prog 26 #[dp s.v, .int .i64 i] w fun e w' => ∃ g cp, e = .returned (.tuple #[.slice (some ⟨g, 0, none⟩) 512 cp, .int .i64 0]) ∧ (s.cont i).length = 512 ∧ Bytes w' (some ⟨g, 0, none⟩) (s.cont i) ∧ Below w.heap.size w w' := by
  cases hf : s.fr i with
  | none =>
    have hl : (s.d.B (1 + i)).length = 512 := h.dev.len _ (by have := h.n16; unfold nbOf at hi; omega)
    refine (vRead_home i s.v s.commits s.turn s.next s.f s.nf s.F s.fr s.d w h.vol h.dev h.n16 h.fresh hi hf).mono ?_
    rintro e w' ⟨g, rfl, hb, hB, _⟩
    have e : s.cont i = s.d.B (1 + i) := by unfold VS.cont; rw [hf]; rfl
    rw [e]
    exact ⟨g, 512, rfl, hl, hb, hB⟩
  | some b =>
    refine (vRead_fresh i b s.v s.commits s.turn s.next s.f s.nf s.F s.fr s.d w h.vol h.dev h.n16 h.fresh hi hf).mono ?_
    rintro e w' ⟨g, cp, rfl, _, hl, hb, hB, _⟩
    have e : s.cont i = b := by unfold VS.cont; rw [hf]; rfl
    rw [e]
    exact ⟨g, cp, rfl, hl, hb, hB⟩

end Go.Proofs.YtdepdcndfofknaaGreatDoor

/-
  Mount of a volume's device that was synced; Commit of too many puts, or of puts that may not be.
-/
namespace Go.Proofs.YtdepdcndfofknaaGreatDoor
open Go.RowKit Go.Maps Go.Sort Go.Shelf

/-- A device with a whole log on it is mounted as the volume of that log. -/
theorem mount_log (s : VS) (d : DS) (w : World) (hl : Log s) (hd : Dev w d) (ht : Tab w) (hn16 : 16 ≤ d.n) (hn200 : d.n ≤ 200) (hn : d.n = s.d.n) (hB : d.B = s.d.B) (hD : d.D = .map []) (hfu : d.fused = false) (hc : s.commits < 1000000) (htu : s.turn < 1000000) :
    Calls Tryz.prog 39 #[dp d.a] w fun e w' => ∃ s', e = .returned (.tuple #[dp s'.v, .int .i64 0]) ∧ VI w' s' ∧ s'.d = d ∧ s'.commits = s.commits ∧ s'.turn = s.turn ∧ s'.nf = s.recs.flatten.length ∧ Below w.heap.size w w' ∧ w.heap.size ≤ s'.v ∧ w.heap.size ≤ s'.f ∧ ∀ i, s'.cont i = s.cont i := by
  have hlen := hl.len
  have hb0 : d.B 0 = headB s.turn (s.commits - s.recs.length) d.n := by rw [hB, hn]; exact hl.head
  have hlog : LogIs d.B d.n (nbOf d.n) s.turn (1 + nbOf d.n) s.recs := by rw [hB, hn]; exact hl.log
  refine (mount_ok s.recs s.turn (s.commits - s.recs.length) d w hd ht hn16 (by unfold DS.dead; rw [hfu]; rfl) hD hb0 (by omega) (by omega) hlog).mono ?_
  rintro e w' ⟨v, f, rfl, hM⟩
  obtain ⟨F, hF⟩ := hM.fr
  have hmlt := hd.mlt
  have hflt := hM.flt
  have ec : s.commits - s.recs.length + s.recs.length = s.commits := by omega
  have hv := hM.vol
  rw [ec] at hv
  refine ⟨⟨v, f, s.recs.flatten.length, s.commits, s.turn, d.n, F, laidOn (fun _ => none) s.recs.flatten, d, s.recs⟩, rfl, ⟨hv, hd.below hM.below, hF, ?_, hfu, hn16, hn200, ⟨rfl, ?_, hlen, hb0, hlog, .inl rfl, ?_, ?_⟩⟩, rfl, rfl, rfl, rfl, hM.below, hM.vlt, hM.flt, fun i => ?_⟩
  · show f ≠ d.m
    omega
  · intro i hi
    have := hl.nb i (by rw [← hn]; exact hi)
    rw [hl.fr] at this
    exact this
  · intro j hj hj'
    show OldB (s.turn + 1) (d.B j)
    rw [hB]
    exact hl.old j (by rw [← hn]; exact hj) (by rw [← hn]; exact hj')
  · intro j hj hj'
    show OldB s.turn (d.B j)
    rw [hB]
    exact hl.old2 j (by rw [← hn]; exact hj) (by rw [← hn]; exact hj')
  · show (laidOn (fun _ => none) s.recs.flatten i).getD (d.B (1 + i)) = (s.fr i).getD (s.d.B (1 + i))
    rw [hB, hl.fr]

set_option maxRecDepth 8000 in
set_option maxHeartbeats 1000000 in
/-- Commit of puts that may not be. -/
theorem vCommit_no (q : Option Addr) (pm : List PutM) (c : Nat) (s : VS) (w : World) (h : VI w s) (hps : PutsAt w q pm) (hq : pm.length = 0 → q = none ∧ c = 0) (hl : pm.length < 1000000) (htk : takesB (nbOf s.d.n) pm = false) :
    Calls Tryz.prog 42 #[dp s.v, .slice q pm.length c] w fun e w' => e = .returned (.int .i64 22) ∧ Below w.heap.size w w' := by
  have c46 := takes_any q pm c s.v s.commits s.turn s.next (some s.f) s.d.count s.d w h.vol h.dev h.n16 hps hq (by omega)
  rw [htk] at c46
  clear h hps
  go_enter Tryz.func42, Tryz.ntmps42
  go_wp2_with (go_at_call 76; refine c46.mono ?_; rintro e w1 ⟨rfl, hB1⟩; clear c46)
  go_ret
  exact ⟨rfl, hB1⟩

end Go.Proofs.YtdepdcndfofknaaGreatDoor

/-
  is of the law: a volume is these blocks.
-/
namespace Go.Proofs.YtdepdcndfofknaaGreatDoor
open Go.RowKit Go.Maps Go.Sort Go.Shelf

/-- A slice of blocks of bytes. -/
def RowsAt (w : World) (p : Option Addr) (n : Nat) (bs : Nat → By) : Prop :=
  0 < n → ∃ g o, p = some ⟨g, o, none⟩ ∧ (∃ cs fr, w.heap[g]? = some (.cells cs 33 fr)) ∧ ∀ i, i < n → ∃ gi oi ci, w.cell? ⟨g, o + i, none⟩ = some (.slice (some ⟨gi, oi, none⟩) 512 ci) ∧ Bytes w (some ⟨gi, oi, none⟩) (bs i) ∧ (bs i).length = 512 ∧ ∃ cs fr, w.heap[gi]? = some (.cells cs 5 fr)

theorem RowsAt.but {w w' : World} {p : Option Addr} {n : Nat} {bs : Nat → By} (h : RowsAt w p n bs) {S : Nat → Prop} (hb : But S w w') (hS : ∀ k cs t fr, w.heap[k]? = some (.cells cs t fr) → t = 5 ∨ t = 33 → ¬ S k) : RowsAt w' p n bs := by
  intro hn
  obtain ⟨g, o, e, ⟨cs, fr, hg⟩, hrow⟩ := h hn
  have key : ∀ (k : Nat) cs t fr, w.heap[k]? = some (.cells cs t fr) → t = 5 ∨ t = 33 → w'.heap[k]? = w.heap[k]? := fun k cs t fr hk ht => hb.block k (Array.getElem?_eq_some_iff.1 hk).1 (hS k cs t fr hk ht)
  have kg := key g cs _ fr hg (.inr rfl)
  refine ⟨g, o, e, ⟨cs, fr, kg.trans hg⟩, fun i hi => ?_⟩
  obtain ⟨gi, oi, ci, hc, hbi, hl, cs', fr', hgi⟩ := hrow i hi
  have ki := key gi cs' _ fr' hgi (.inl rfl)
  refine ⟨gi, oi, ci, (World.cell?_of_block (w := w) kg).trans hc, fun hp => ?_, hl, cs', fr', ki.trans hgi⟩
  obtain ⟨b, o', e', hx⟩ := hbi hp
  cases e'
  exact ⟨gi, oi, rfl, fun j x hj => (World.cell?_of_block (w := w) ki).trans (hx j x hj)⟩
theorem RowsAt.below {w w' : World} {p : Option Addr} {n : Nat} {bs : Nat → By} (h : RowsAt w p n bs) (hb : Below w.heap.size w w') : RowsAt w' p n bs :=
  h.but (S := fun _ => False) (But.of_below hb) (fun _ _ _ _ _ _ h => h)

set_option maxRecDepth 8000 in
set_option maxHeartbeats 4000000 in
theorem is_any (s : VS) (p : Option Addr) (nb c : Nat) (bs : Nat → By) (w : World) (h : VI w s) (hnb : nb = nbOf s.d.n) (hR : RowsAt w p nb bs) (heq : ∀ i, i < nb → s.cont i = bs i) :
    Calls Tryz.prog 35 #[dp s.v, .slice p nb c] w fun e w' => e = .returned (.bool true) ∧ Below w.heap.size w w' := by
  have hn200 := h.n200
  have hnb48 : nb ≤ 48 := by rw [hnb]; unfold nbOf; omega
  have hnb1 : 1 ≤ nb := by have := h.n16; rw [hnb]; unfold nbOf; omega
  have c9 := vBlocks s.v s.commits s.turn s.next (some s.f) s.d.count s.d w h.vol h.dev h.n16
  rw [← hnb] at c9
  obtain ⟨g0, o0, rfl, hg0, hrow⟩ := hR hnb1
  have H0 : Hid (VI w s ∧ nb = nbOf s.d.n ∧ (∀ i, i < nb → s.cont i = bs i) ∧ ∀ i, i < nb → ∃ gi oi ci, w.cell? ⟨g0, o0 + i, none⟩ = some (.slice (some ⟨gi, oi, none⟩) 512 ci) ∧ Bytes w (some ⟨gi, oi, none⟩) (bs i) ∧ (bs i).length = 512 ∧ ∃ cs fr, w.heap[gi]? = some (.cells cs 5 fr)) := ⟨h, hnb, heq, hrow⟩
  clear h hnb hR heq hrow hg0
  go_enter Tryz.func35, Tryz.ntmps35
  go_wp2_with (go_at_call 41; refine Calls_on c9 ?_)
  go_loopw [5] (fun ii wr => ∃ i : Nat, i ≤ nb ∧ ii = .int .i64 i ∧ Hid (Below w.heap.size w wr)) (fun ii _ => nb - (intOf ii).toNat)
  case atStart => exact ⟨0, Nat.zero_le _, rfl, Below.refl _ _⟩
  case round =>
    obtain ⟨i, hi, rfl, HB⟩ := hrel
    by_cases hlt : i < nb
    · have hltI : (i : Int) < nb := by omega
      have cR := vRead_any i s wr (H0.out.1.below HB.out) (by rw [← H0.out.2.1]; exact hlt)
      go_wp2_with (go_at_call 26; refine cR.mono ?_; rintro e w1 ⟨g, cp, rfl, hl, hb, hB1⟩; clear cR; refine Stop.out ?_)
      refine Stop.mk ?_
      obtain ⟨gi, oi, ci, hc, hbi, hli, _⟩ := H0.out.2.2.2 i hlt
      have hBw : Below w.heap.size w w1 := HB.out.trans (hB1.mono HB.out.size)
      have y : w1.drew.cell? ⟨g0, o0 + i, none⟩ = some (.slice (some ⟨gi, oi, none⟩) 512 ci) := (hBw.cell (p := ⟨g0, o0 + i, none⟩) (World.block_lt_of_cell? w _ hc)).trans hc
      have r1 := run_str w1.drew (some ⟨g, 0, none⟩) (s.cont i) cp hb
      have r2 := run_str w1.drew (some ⟨gi, oi, none⟩) (bs i) ci (below_bytes hBw hbi)
      rw [hl] at r1
      rw [hli, ← H0.out.2.2.1 i hlt] at r2
      have HBw : Hid (Below w.heap.size w w1.drew) := hBw.drew
      generalize strOf (s.cont i) = sz at *
      clear hl hb hB1 hc hbi hli hBw
      go_wp2_with fail
      go_region
      all_goals go_wp2
      all_goals go_roundw
      all_goals first | exact ⟨i + 1, by omega, by go_num, HBw⟩ | (simp [intOf]; omega)
    · obtain rfl : i = nb := by omega
      have hI := H0.out.1.below HB.out
      have cN := vRead_no (i : Int) s.v s.commits s.turn s.next (some s.f) s.d.count s.d wr hI.vol hI.dev hI.n16 (by rw [← H0.out.2.1]; omega)
      clear hI
      go_wp2_with (go_at_call 26; refine Calls_on cN ?_)
      go_ret
      exact ⟨rfl, HB.out⟩

end Go.Proofs.YtdepdcndfofknaaGreatDoor

/-
  Size and now of the law.
-/
namespace Go.Proofs.YtdepdcndfofknaaGreatDoor
open Go.RowKit Go.Maps Go.Sort Go.Shelf

set_option maxRecDepth 8000 in
set_option maxHeartbeats 400000 in
theorem size_any (n : Int) (w : World) (h1 : -9223372036854775808 ≤ n) (h2 : n < 9223372036854775808) :
    Calls Tryz.prog 33 #[.int .i64 n] w fun e w' => ∃ k : Nat, e = .returned (.int .i64 k) ∧ 16 ≤ k ∧ k ≤ 135 ∧ w' = w := by
  by_cases hn : n < 0
  · have e1 : 0 ≤ -(n + 1) := by omega
    have e2 : -(n + 1) ≤ 9223372036854775807 := by omega
    obtain ⟨r, hr⟩ : ∃ r : Nat, (r : Int) = -(n + 1) := ⟨(-(n + 1)).toNat, by omega⟩
    have hn' : n = -(r : Int) - 1 := by omega
    subst hn'
    have e3 : -(-(r : Int) - 1 + 1) = (r : Int) := by omega
    clear e1 hr h2
    go_enter Tryz.func33, Tryz.ntmps33
    go_wp2
    go_ret
    exact ⟨16 + r % 120, by simp, by omega, by omega, rfl⟩
  · obtain ⟨r, rfl⟩ := Int.eq_ofNat_of_zero_le (show 0 ≤ n by omega)
    go_enter Tryz.func33, Tryz.ntmps33
    go_wp2
    go_ret
    exact ⟨16 + r % 120, by simp, by omega, by omega, rfl⟩

set_option maxRecDepth 8000 in
set_option maxHeartbeats 400000 in
theorem now_any (mB g k c : Nat) (p : Option Addr) (nb cc : Nat) (w : World) (h0 : w.cell? ⟨mB, 0, none⟩ = some (.slice (some ⟨g, 0, none⟩) (k + 1) c)) (h1 : w.cell? ⟨g, k, none⟩ = some (.slice p nb cc)) (hk : k < 1000000) :
    Calls Tryz.prog 36 #[dp mB] w fun e w' => e = .returned (.slice p nb cc) ∧ ∃ j, w' = w.drewN j := by
  go_enter Tryz.func36, Tryz.ntmps36
  go_wp2_with fail
  go_quiet (fail)
  go_wp2
  go_ret
  exact ⟨rfl, _, rfl⟩

end Go.Proofs.YtdepdcndfofknaaGreatDoor

namespace Go.Proofs.YtdepdcndfofknaaGreatDoor
open Go.RowKit Go.Maps Go.Sort Go.Shelf

theorem Tryz.info33 : (Tryz.prog.info? 33).map (fun i => (i.zero, i.size, i.bytes)) = some (some (.slice none 0 0), 1, 24) := by kernel_rfl

/-- Rows of zeros, each in a block of its own, in a slice that the call has made. -/
structure ROwn (W : World) (base : Nat) (v : Value) (gs : List Nat) : Prop where
  own : W.ownsRow base 33 1 v gs.length (gs.map fun g => Value.slice (some ⟨g, 0, none⟩) 512 512)
  blk : ∀ g ∈ gs, W.heap[g]? = some (.cells (zeroB.map u8v).toArray 5 (0, 0))

/-- The model's struct: the last of its rows. -/
structure ModelAt (W : World) (base mB k : Nat) (p : Option Addr) (nb c : Nat) : Prop where
  at_ : ∃ v y cs, W.heap[mB]? = some (.cells #[v, y] 68 (0, 0)) ∧ W.ownsRow base 29 1 v (k + 1) (cs ++ [.slice p nb c]) ∧ cs.length = k

theorem ROwn.rows {W : World} {base : Nat} {v : Value} {gs : List Nat} (h : ROwn W base v gs) (hp : 0 < gs.length) : ∃ p c, v = .slice p gs.length c ∧ RowsAt W p gs.length (fun _ => zeroB) := by
  rcases h.own.2 with ⟨e, h0⟩ | ⟨g, cap, cur, rfl, hg, hblk, hcap, _⟩
  · omega
  · refine ⟨_, cap, rfl, fun _ => ⟨g, 0, rfl, ⟨_, _, hblk⟩, fun i hi => ?_⟩⟩
    have hc := h.own.cellAt i (by simpa using hi)
    rw [List.getElem?_map, List.getElem?_eq_getElem hi] at hc
    have hb := h.blk gs[i] (List.getElem_mem hi)
    refine ⟨gs[i], 0, 512, ?_, bytes_block hb, zeroB_length, _, _, hb⟩
    rw [Nat.zero_add]
    simpa using hc

theorem own_belowT {W W' : World} {base : Nat} {e : TypeId} {size : Nat} {v : Value} {n : Nat} {xs : List Value} (h : W.ownsRow base e size v n xs) (hB : Below W.heap.size W W') : W'.ownsRow base e size v n xs := by
  refine ⟨h.1, ?_⟩
  rcases h.2 with h0 | ⟨g, cap, cur, hv, hg, hblk, r⟩
  · exact .inl h0
  · exact .inr ⟨g, cap, cur, hv, hg, (hB.block g (Array.getElem?_eq_some_iff.1 hblk).1).trans hblk, r⟩

theorem cell_ne_tag {W : World} {g g' : Nat} {cs cs' : Array Value} {t t' : TypeId} {fr fr' : Nat × Nat} (h : W.heap[g]? = some (.cells cs t fr)) (h' : W.heap[g']? = some (.cells cs' t' fr')) (ht : t ≠ t') : g ≠ g' := by
  rintro rfl
  rw [h] at h'
  simp only [Option.some.injEq, Obj.cells.injEq] at h'
  exact ht h'.2.1

/-- One row more. -/
theorem ROwn.snoc {W w1 W' : World} {base : Nat} {v v' : Value} {gs : List Nat} (h : ROwn W base v gs) (hb1 : Below W.heap.size W w1) (hz : w1.heap[W.heap.size]? = some (.cells (zeroB.map u8v).toArray 5 (0, 0)))
    (hown : W'.ownsRow base 33 1 v' (gs.length + 1) ((gs.map fun g => Value.slice (some ⟨g, 0, none⟩) 512 512) ++ [Value.slice (some ⟨W.heap.size, 0, none⟩) 512 512])) (hg : (w1.alloc (.cells #[Value.slice (some ⟨W.heap.size, 0, none⟩) 512 512] 33)).grownBy W' v.ownBlock) : ROwn W' base v' (gs ++ [W.heap.size]) := by
  refine ⟨by simpa using hown, fun g hgm => ?_⟩
  have keep : ∀ g : Nat, w1.heap[g]? = some (Obj.cells (zeroB.map u8v).toArray 5 (0, 0)) → W'.heap[g]? = some (Obj.cells (zeroB.map u8v).toArray 5 (0, 0)) := by
    intro g hx
    have hlt := (Array.getElem?_eq_some_iff.1 hx).1
    refine (hg.block g (by simp; omega) (fun e => ?_)).trans ((Below.heap_alloc _ _ g hlt).trans hx)
    rcases h.own.2 with ⟨rfl, _⟩ | ⟨g0, cap, cur, rfl, _, hblk, _⟩
    · simp [Value.ownBlock] at e
    · have e' : g = g0 := by simpa [Value.ownBlock] using e
      exact cell_ne_tag hx (below_block hblk hb1) (by decide) e'
  rcases List.mem_append.1 hgm with hm | hm
  · exact keep g (below_block (h.blk g hm) hb1)
  · rw [List.mem_singleton.1 hm]; exact keep _ hz

/-- A volume of zeros that is just mounted. -/
theorem zero_log (v f nf n : Nat) (F : DataW Value) (d : DS) (hn : d.n = n) (h16 : 16 ≤ n) (hb0 : d.B 0 = headB 1 0 n) (hz : ∀ i, 0 < i → i < n → d.B i = zeroB) : Log ⟨v, f, nf, 0, 1, d.n, F, fun _ => none, d, []⟩ := by
  have hle : 1 + nbOf d.n ≤ d.n := by unfold nbOf; omega
  refine ⟨rfl, fun _ _ => rfl, Nat.le_refl _, by rw [hn]; exact hb0, ⟨hle, fun hlt => ?_⟩, .inl rfl, fun j hj hj' => ?_, fun j hj hj' => ?_⟩
  · show OldB 1 (d.B (1 + nbOf d.n))
    rw [hz _ (by omega) (by have : 1 + nbOf d.n < d.n := hlt; omega)]; exact oldB_zero _
  · show OldB 2 (d.B j)
    have h1 : 1 + nbOf d.n ≤ j := hj
    have h2 : j < d.n := hj'
    rw [hz j (by omega) (by omega)]; exact oldB_zero _
  · show OldB 1 (d.B j)
    have h1 : 1 + nbOf d.n ≤ j := hj
    have h2 : j < d.n := hj'
    rw [hz j (by omega) (by omega)]; exact oldB_zero _

/-- What fresh gives. -/
structure Frs (w w' : World) (n : Nat) (s : VS) (mB : Nat) (p : Option Addr) (c : Nat) : Prop where
  vi : VI w' s
  bud : Bud s 1
  eqn : s.d.n = n
  D : s.d.D = .map []
  commits : s.commits = 0
  cont : ∀ i, i < nbOf n → s.cont i = zeroB
  model : ModelAt w' w.heap.size mB 0 p (nbOf n) c
  rows : RowsAt w' p (nbOf n) (fun _ => zeroB)
  below : Below w.heap.size w w'
  new : ∀ k, (s.mine k ∨ k = mB) → w.heap.size ≤ k

set_option maxRecDepth 8000 in
set_option maxHeartbeats 4000000 in
theorem fresh_any (n : Nat) (w : World) (ht : Tab w) (h16 : 16 ≤ n) (h200 : n ≤ 200) :
    Calls Tryz.prog 32 #[.int .i64 n] w fun e w' => ∃ s mB, e = .returned (.tuple #[dp s.d.a, dp s.v, dp mB]) ∧ ∃ p c, Frs w w' n s mB p c := by
  have c21 := dev_new n w (by omega) (by omega)
  obtain ⟨nb, hnb⟩ : ∃ nb, nb = nbOf n := ⟨_, rfl⟩
  have e1 : ((n : Int) - 8) / 4 = (nb : Int) := by rw [hnb]; unfold nbOf; omega
  have e2 : Int.tdiv ((n : Int) - 8) 4 = (nb : Int) := by rw [Int.tdiv_eq_ediv_of_nonneg (by omega)]; exact e1
  have hnb1 : 1 ≤ nb := by rw [hnb]; unfold nbOf; omega
  have hnb48 : nb ≤ 48 := by rw [hnb]; unfold nbOf; omega
  have HT : Hid (Tab w ∧ nb = nbOf n) := ⟨ht, hnb⟩
  clear ht hnb
  obtain ⟨i0, hi0, hz0, hz1, hz2⟩ := info_parts Tryz.info5
  obtain ⟨j0, hj0, hy0, hy1, hy2⟩ := info_parts Tryz.info33
  go_enter Tryz.func32, Tryz.ntmps32
  go_wp2_with (go_at_call 43; refine c21.mono ?_; rintro e w1 ⟨a, s0, c0, m0, rfl, hd1, hB1, ha1, hs1, hm1⟩; clear c21; refine Stop.out ?_)
  refine Stop.mk ?_
  have ht1 : Tab w1 := below_tab hB1 HT.out.1.lt HT.out.1
  have cF := format_ok (newDS a s0 c0 m0 n) w1 hd1 ht1 h16 (fun i _ => rfl) (fun h => by cases h) (by simp [newDS])
  have H1 : Hid (Dev w1 (newDS a s0 c0 m0 n) ∧ Tab w1 ∧ Below w.heap.size w w1 ∧ ∀ k, (newDS a s0 c0 m0 n).mine k → w.heap.size ≤ k) := ⟨hd1, ht1, hB1, by rintro k (rfl | rfl | rfl); exact ha1; exact hs1; exact hm1⟩
  clear hd1 hB1 ha1 hs1 hm1 ht1
  go_wp2_with (go_at_call 44; refine cF.mono ?_; rintro e w2 ⟨d2, rfl, hb2, hn2, hd2, hdn2, hD2, hB2, hcn2, hfu2⟩; clear cF; refine Stop.out ?_)
  refine Stop.mk ?_
  obtain ⟨hd1, ht1, hB1, lo1⟩ := H1.out
  have ht2 : Tab w2 := hb2.tab ht1 (hd1.noTab ht1)
  have ea2 : d2.a = a := hn2.a
  have en2 : d2.n = n := hdn2
  have hb0 : d2.B 0 = headB 1 0 n := by rw [hB2]; simp [upd, newDS]
  have hzz : ∀ i, 0 < i → i < n → d2.B i = zeroB := fun i h0 _ => by
    rw [hB2]
    have : i ≠ 0 := by omega
    simp [upd, this, newDS]
  have cM := mount_ok [] 1 0 d2 w2 hd2 ht2 (by omega) (by unfold DS.dead; rw [show d2.fused = false from hfu2]; rfl) hD2 (by rw [hb0, en2]) (by omega) (by omega) (by
    refine ⟨by unfold nbOf; omega, fun hlt => ?_⟩
    rw [hzz _ (by omega) (by omega)]
    exact oldB_zero _)
  rw [ea2] at cM
  have B2 : Below w.heap.size w w2 := hB1.trans (hb2.below hB1.size lo1)
  have lo2 : ∀ k, d2.mine k → w.heap.size ≤ k := by
    rintro k (e | e | e)
    · exact lo1 k (.inl (e.trans hn2.a))
    · exact lo1 k (.inr (.inl (e.trans hn2.s)))
    · rcases hn2.m with x | x
      · exact lo1 k (.inr (.inr (e.trans x)))
      · have := hB1.size; omega
  have H2 : Hid (Dev w2 d2 ∧ Below w.heap.size w w2 ∧ (∀ k, d2.mine k → w.heap.size ≤ k) ∧ d2.B 0 = headB 1 0 n ∧ (∀ i, 0 < i → i < n → d2.B i = zeroB) ∧ d2.D = .map [] ∧ d2.count = 4 ∧ d2.fused = false) := ⟨hd2, B2, lo2, hb0, hzz, hD2, hcn2, hfu2⟩
  clear hd1 ht1 hB1 lo1 ht2 hb0 hzz B2 lo2 hd2 hb2 hn2 hD2 hB2 hcn2 hfu2 H1 hdn2
  go_wp2_with (go_at_call 39; refine cM.mono ?_; rintro e w3 ⟨v, f, rfl, hM⟩; clear cM)
  have HM : Hid (Mounted w2 w3 v d2 (0 + ([] : List Rec).length) 1 f []) := hM
  clear hM
  go_loopw [9, 10] (fun mv ii wr => ∃ gs : List Nat, gs.length ≤ nb ∧ ii = .int .i64 gs.length ∧ Hid (ROwn wr w3.heap.size mv gs ∧ Below w3.heap.size w3 wr)) (fun _ ii _ => nb - (intOf ii).toNat)
  case atStart => exact ⟨[], Nat.zero_le _, rfl, ⟨World.ownsRow_nil _ _ _ _, fun g hg => by cases hg⟩, Below.refl _ _⟩
  case round =>
    obtain ⟨gs, hgl, rfl, HI⟩ := hrel
    obtain ⟨p0, l0, c0, hv⟩ : ∃ p l c, u9 = Value.slice p l c := by
      rcases HI.out.1.own.2 with ⟨e, _⟩ | ⟨g, cap, cur, e, _⟩ <;> exact ⟨_, _, _, e⟩
    subst hv
    by_cases hlt : gs.length < nb
    · have hltI : (gs.length : Int) < nb := by omega
      go_wp2_with (first
        | (at_make; refine wpList_make_full _ rfl _ _ 33 rfl 0 5 i0 (.int .u8 0) 1 Tryz.underlying33 hi0 hz0 hz1 .i64 .i64 _ _ 512 rfl rfl rfl rfl (by rw [hz2]; omega) (by unfold maxLen; omega) (Nat.zero_le _) ?_; intro w4 hrow4 hg4; have hz4 : Hid (w4.heap[wr.heap.size]? = some (.cells (zeroB.map u8v).toArray 5 (0, 0))) := (by { have := made_zeros hrow4; rw [← zeros_bytes] at this; exact this }); have HB4 : Hid (Below wr.heap.size wr w4) := (Below.refl _ wr).grown hg4 (Nat.le_refl _) (by simp); clear hrow4 hg4; refine Stop.out ?_))
      refine Stop.mk ?_
      go_wp2_with (at_builtin; refine Stop.out ?_)
      refine Stop.mk ?_
      refine wpList_append_own_at _ rfl _ _ 29 rfl w3.heap.size 33 j0 (.slice none 0 0) 1 24 Tryz.underlying29 hj0 hy0 hy1 hy2 rfl (by decide) (.slice p0 l0 c0) gs.length (gs.map fun g => Value.slice (some ⟨g, 0, none⟩) 512 512) rfl (own_belowT (own_belowT HI.out.1.own HB4.out) ((Below.refl _ w4).alloc (Nat.le_refl _) _)) ⟨w4.heap.size, 0, none⟩ 1 1 [Value.slice (some ⟨wr.heap.size, 0, none⟩) 512 512] rfl rfl (cell_one_new _ _ _) (by intro u hu; rw [List.mem_singleton.1 hu]; rfl) (by unfold maxLen; omega) (by omega) (by have h1 := HI.out.2.size; have h2 := HB4.out.size; simp; omega) ?_
      intro v5 w5 hown5 hg5 _ _
      have hB4 := HB4.out
      have H5 : Hid (ROwn w5 w3.heap.size v5 (gs ++ [wr.heap.size]) ∧ Below w3.heap.size w3 w5) := by
        refine ⟨HI.out.1.snoc hB4 hz4.out hown5 hg5, ?_⟩
        have b4 : Below w3.heap.size w3 w4 := HI.out.2.trans (hB4.mono HI.out.2.size)
        refine (b4.alloc b4.size _).grown hg5 (by have := b4.size; simp; omega) (fun b e => ?_)
        rcases HI.out.1.own.2 with ⟨e', _⟩ | ⟨g, cap, cur, e', hg, _⟩
        · rw [e'] at e; simp [Value.ownBlock] at e
        · rw [e'] at e; simp [Value.ownBlock] at e; omega
      clear hown5 hg5 hB4 hz4 HB4
      go_wp2
      go_roundw
      case rel => exact ⟨gs ++ [wr.heap.size], by simp; omega, by simp, H5⟩
      case measure => simp [intOf]; omega
    · obtain h0 : gs.length = nb := by omega
      have hge : ¬ (gs.length : Int) < nb := by omega
      go_wp2
      go_ret3
      obtain ⟨hd2, B2, lo2, hb0, hzz, hD2, hcn2, hfu2⟩ := H2.out
      have hM := HM.out
      obtain ⟨F, hF⟩ := hM.fr
      obtain ⟨hown, hB⟩ := HI.out
      obtain ⟨p, c, ev, hrows⟩ := hown.rows (by omega)
      cases ev
      have enb : gs.length = nbOf n := h0.trans HT.out.2
      have B3 : Below w.heap.size w w3 := B2.trans (hM.below.mono B2.size)
      have Br : Below w.heap.size w wr := B3.trans (hB.mono B3.size)
      obtain ⟨wA, hwA⟩ : ∃ wA, wA = wr.alloc (.cells #[Value.slice p0 gs.length c0] 29) := ⟨_, rfl⟩
      have hBA : Below wr.heap.size wr wA := by rw [hwA]; exact (Below.refl _ wr).alloc (Nat.le_refl _) _
      have hsA : wA.heap.size = wr.heap.size + 1 := by rw [hwA]; simp
      have hgA : wA.heap[wr.heap.size]? = some (.cells #[Value.slice p0 gs.length c0] 29 (0, 0)) := by rw [hwA]; exact heap_alloc_new wr _
      rw [← hwA]
      obtain ⟨wB, hwB⟩ : ∃ wB, wB = wA.alloc (.cells #[Value.slice (some ⟨wr.heap.size, 0, none⟩) 1 1, Value.int .i64 0] 68) := ⟨_, rfl⟩
      have hBB : Below wA.heap.size wA wB := by rw [hwB]; exact (Below.refl _ wA).alloc (Nat.le_refl _) _
      have hgB : wB.heap[wr.heap.size + 1]? = some (.cells #[Value.slice (some ⟨wr.heap.size, 0, none⟩) 1 1, Value.int .i64 0] 68 (0, 0)) := by rw [hwB, ← hsA]; exact heap_alloc_new wA _
      rw [← hwB]
      clear hwA hwB
      have hAB : Below wr.heap.size wr wB := hBA.trans (hBB.mono hBA.size)
      have h3B : Below w3.heap.size w3 wB := hB.trans (hAB.mono hB.size)
      have hfm : f ≠ d2.m := by have h1 := hM.flt; have h2 := hd2.mlt; omega
      have hvlt := hM.vlt
      have hflt := hM.flt
      have hs2 := B2.size
      have hs3 := hM.below.size
      have hsr := hB.size
      refine ⟨⟨v, f, 0, 0, 1, d2.n, F, fun _ => none, d2, []⟩, wr.heap.size + 1, ?_, p0, c0, ⟨⟨hM.vol.below h3B, (hd2.below hM.below).below h3B, hF.below h3B, hfm, hfu2, by rw [en2]; exact h16, by rw [en2]; exact h200, zero_log v f 0 n F d2 en2 h16 hb0 hzz⟩, ⟨Nat.zero_le _, ?_, Nat.zero_le _, Nat.le_succ 1⟩, en2, hD2, rfl, fun i hi => ?_, ⟨_, _, [], hgB, ?_, rfl⟩, ?_, ?_, ?_⟩⟩
      · show _ = Ending.returned (.tuple #[dp d2.a, dp v, dp (wr.heap.size + 1)])
        rw [ea2]
        rfl
      · show d2.count ≤ 1 * 1000
        omega
      · show d2.B (1 + i) = zeroB
        exact hzz _ (by omega) (by unfold nbOf at hi; omega)
      · refine ⟨rfl, .inr ⟨wr.heap.size, 1, #[Value.slice p0 gs.length c0], rfl, by omega, below_block hgA hBB, ?_⟩⟩
        rw [enb]
        simp [maxLen]
      · rw [← enb]
        exact hrows.below hAB
      · exact Br.trans (hAB.mono Br.size)
      · rintro k ((e | e | hm) | e)
        · have e' : k = v := e
          omega
        · have e' : k = f := e
          omega
        · exact lo2 k hm
        · omega

end Go.Proofs.YtdepdcndfofknaaGreatDoor
