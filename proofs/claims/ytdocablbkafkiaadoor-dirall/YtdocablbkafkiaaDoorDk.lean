/-
  A block takes an entry; if there are too many then, it gives up the greatest one.
-/
import Derived.Test.YtdocablbkafkiaaDoorDj
import Derived.Deep.RegionWith
namespace Go.Proofs.YtdocablbkafkiaaDoor.Cd
open Go.RowKit Go.Lib

/-- What stands in the row B of blocks at k turns from v to v', and with it the row of entries that v was. -/
structure Turned (base B k : Nat) (cs : Array Value) (v v' : Value) (L' : List En) (w w' : World) : Prop where
  row : w'.heap[B]? = some (.cells (cs.setIfInBounds k v') 57 (0, 0))
  blk : Blk w' base v' L'
  only : Only (fun j => j = B ∨ v.ownBlock = some j) w w'
  new : v'.ownBlock = v.ownBlock ∨ ∃ g, v'.ownBlock = some g ∧ w.heap.size ≤ g

theorem below_of_drew {B : Nat} {w w' : World} (h : Below B w.drew w') : Below B w w' := ⟨h.os, h.tape, h.output, h.size, h.block⟩
theorem grown_only {w w' : World} {row : Option Nat} (h : w.grownBy w' row) : Only (fun j => row = some j) w w' :=
  ⟨h.os, h.tape, h.output, h.size, fun k hk hn => h.block k hk (fun e => hn e.symm)⟩

theorem Turned.later {base B k : Nat} {cs : Array Value} {v v' : Value} {L' : List En} {w w1 w2 : World} {S : Nat → Prop} (h : Turned base B k cs v v' L' w w1) (ho : Only S w1 w2) (hS : ∀ j, S j → w.heap.size ≤ j) (hn : ∀ g, v'.ownBlock = some g → ¬ S g) (hB : B < w.heap.size) : Turned base B k cs v v' L' w w2 :=
  ⟨(ho.block B (block_lt h.row) (fun e => by have := hS B e; omega)).trans h.row, h.blk.kept ho hn, h.only.trans ho (fun i hi => .inr (hS i hi)), h.new⟩
/-- What add answers. -/
def Added (base B k : Nat) (cs : Array Value) (v : Value) (L : List En) (x : En) (w : World) (e : Ending) (w' : World) : Prop :=
  ∃ v', (L.length < 7 ∧ e = .returned (.tuple #[.agg #[.string ⟨#[]⟩, .int .i64 0], .bool false]) ∧ Turned base B k cs v v' (ins L x) w w') ∨
    (L.length = 7 ∧ ∃ z, (ins L x)[7]? = some z ∧ e = .returned (.tuple #[.agg #[.string (bas z.name), .int .i64 (z.num : Nat)], .bool true]) ∧ Turned base B k cs v v' ((ins L x).take 7) w w')

theorem turned_core {base B k n n' : Nat} {cs : Array Value} {p p' : Option Addr} {c c' : Nat} {L M : List En} {xs : Array Value} {w w1 w2 w3 : World} (h1 : Below w.heap.size w w1) (h2 : Below w1.heap.size w1 w2) (hsz : w1.heap.size = w.heap.size + 2) (hB : w.heap[B]? = some (.cells cs 57 (0, 0))) (hL : Blk w base (.slice p n c) L)
    (hB3 : w3.heap[B]? = some (.cells cs 57 (0, 0))) (hM : Blk w3 base (.slice p' n' c') M) (hg : (w2.alloc (.cells xs 55)).drew.grownBy w3 (Value.slice p n c).ownBlock)
    (hn : (Value.slice p' n' c').ownBlock = (Value.slice p n c).ownBlock ∨ (Value.slice p' n' c').ownBlock = some (w2.heap.size + 1)) (hr : w3.heap[w.heap.size + 1]? = some (.cells #[.string ⟨#[]⟩, .int .i64 0] 55 (0, 0))) :
    Turned base B k cs (.slice p n c) (.slice p' n' c') M w (w3.setCell ⟨B, k, none⟩ (.slice p' n' c')) ∧ (w3.setCell ⟨B, k, none⟩ (.slice p' n' c')).heap[w.heap.size + 1]? = some (.cells #[.string ⟨#[]⟩, .int .i64 0] 55 (0, 0)) ∧ (Value.slice p' n' c').ownBlock ≠ some (w.heap.size + 1) := by
  have hBl := block_lt hB
  have o3 : Only (fun j => j = B ∨ (Value.slice p n c).ownBlock = some j) w w3 := by
    have a1 : Below w.heap.size w (w2.alloc (.cells xs 55)).drew := h1.trans (((h2.alloc h2.size _).drew).mono (by omega))
    exact Only.trans (Below.only a1 _) (grown_only hg) (fun i hi => .inl (.inr hi))
  refine ⟨⟨heap_set_same hB3 _, hM.kept (Only.setCell (S := (· = B)) w3 ⟨B, k, none⟩ _ rfl) (fun g hg' e => ?_), ?_, ?_⟩, ?_, fun e => ?_⟩
  · subst e
    obtain ⟨_, _, cur, ht⟩ := hM.tag hg'
    rw [hB3] at ht; cases ht
  · exact o3.next (Only.setCell _ ⟨B, k, none⟩ _ (.inl rfl))
  · rcases hn with hn | hn
    · exact .inl hn
    · exact .inr ⟨_, hn, by have := h2.size; omega⟩
  · rw [Below.heap_setCell w3 ⟨B, k, none⟩ _ _ (by show _ ≠ B; omega)]; exact hr
  · rcases hn with hn | hn
    · rw [hn] at e; have := (hL.tag e).2.1; omega
    · rw [hn] at e; injection e with e; have := h2.size; omega

theorem turned_again {base B k : Nat} {cs : Array Value} {v v4 v6 : Value} {M4 M6 : List En} {xs : Array Value} {w w4 w6 : World} (h : Turned base B k cs v v4 M4 w w4) (hg : (w4.alloc (.cells xs 55)).grownBy w6 v4.ownBlock) (hM : Blk w6 base v6 M6) (ho : v6.ownBlock = v4.ownBlock) (hgB : v4.ownBlock ≠ some B) :
    w6.heap[B]? = some (.cells (cs.setIfInBounds k v4) 57 (0, 0)) ∧ Turned base B k cs v v6 M6 w (w6.setCell ⟨B, k, none⟩ v6) := by
  have hB6 : w6.heap[B]? = some (.cells (cs.setIfInBounds k v4) 57 (0, 0)) := by
    rw [hg.block B (by have := block_lt h.row; simp; omega) (fun e => hgB e.symm), heap_alloc_old _ _ (block_lt h.row)]; exact h.row
  refine ⟨hB6, ⟨?_, hM.kept (Only.setCell (S := (· = B)) w6 ⟨B, k, none⟩ _ rfl) (fun g hg' e => ?_), ?_, ?_⟩⟩
  · rw [heap_set_same hB6]; simp
  · rw [ho] at hg'; subst e; exact hgB hg'
  · have o1 : Only (fun j => j = B ∨ v.ownBlock = some j) w w6 := by
      have a1 := h.only.next (Only.alloc _ w4 (.cells xs 55))
      refine a1.trans (grown_only hg) (fun i hi => ?_)
      rcases h.new with e | ⟨g, e, hlt⟩
      · exact .inl (.inr (by rw [← e]; exact hi))
      · rw [e] at hi; injection hi with hi; exact .inr (by omega)
    exact o1.next (Only.setCell _ ⟨B, k, none⟩ _ (.inl rfl))
  · rw [ho]; exact h.new

set_option maxRecDepth 8000 in
set_option maxHeartbeats 4000000 in
theorem add_any (base B k : Nat) (cs : Array Value) (v : Value) (L : List En) (x : En) (w : World) (hB : w.heap[B]? = some (.cells cs 57 (0, 0))) (hk : cs[k]? = some v) (h : Blk w base v L) (hb : base ≤ w.heap.size) (hs : Srt L) (hl : L.length ≤ 7) :
    Calls Tryd.prog 41 #[.pointer (some ⟨B, k, none⟩), .agg #[.string (bas x.name), .int .i64 (x.num : Nat)]] w (Added base B k cs v L x w) := by
  obtain ⟨p, c, rfl, hlc, hcm, _⟩ := h.form
  have cB : w.cell? ⟨B, k, none⟩ = some (.slice p L.length c) := by rw [cellOf hB k]; exact hk
  obtain ⟨w1, hw1⟩ : ∃ w1, w1 = (w.alloc (.cells #[.string (bas x.name), .int .i64 (x.num : Nat)] 55)).alloc (.cells #[.string ⟨#[]⟩, .int .i64 0] 55) := ⟨_, rfl⟩
  have hb1 : Below w.heap.size w w1 := by rw [hw1]; exact ((Below.refl _ w).alloc (Nat.le_refl _) _).alloc (by simp) _
  have hsz1 : w1.heap.size = w.heap.size + 2 := by rw [hw1]; simp
  have cB1 : w1.cell? ⟨B, k, none⟩ = some (.slice p L.length c) := (hb1.cell (p := ⟨B, k, none⟩) (block_lt hB)).trans cB
  have hx0 : w1.heap[w.heap.size]? = some (.cells #[.string (bas x.name), .int .i64 (x.num : Nat)] 55 (0, 0)) := by
    rw [hw1, heap_alloc_old _ _ (by simp)]; exact heap_alloc_new w _
  have hx1 : w1.heap[w.heap.size + 1]? = some (.cells #[.string ⟨#[]⟩, .int .i64 0] 55 (0, 0)) := by
    rw [hw1]
    have := heap_alloc_new (w.alloc (.cells #[.string (bas x.name), .int .i64 (x.num : Nat)] 55)) (.cells #[.string ⟨#[]⟩, .int .i64 0] 55)
    simpa using this
  have y0 : w1.cell? ⟨w.heap.size, 0, none⟩ = some (.string (bas x.name)) := cellOf hx0 0
  have h1 : Blk w1 base (.slice p L.length c) L := Only.ownsAny (Below.only hb1 (fun _ => False)) h (fun _ _ f => f)
  have cF := find_any base (.slice p L.length c) L (bas x.name) w1.drew h1 hs (by omega)
  rw [bas_data] at cF
  have H1 : Hid (Below w.heap.size w w1 ∧ Blk w1 base (.slice p L.length c) L ∧ w1.heap[w.heap.size]? = some (.cells #[.string (bas x.name), .int .i64 (x.num : Nat)] 55 (0, 0)) ∧ w1.heap[w.heap.size + 1]? = some (.cells #[.string ⟨#[]⟩, .int .i64 0] 55 (0, 0)) ∧ w1.heap.size = w.heap.size + 2) := ⟨hb1, h1, hx0, hx1, hsz1⟩
  have H0 : Hid (w.heap[B]? = some (.cells cs 57 (0, 0)) ∧ cs[k]? = some (.slice p L.length c) ∧ Blk w base (.slice p L.length c) L ∧ base ≤ w.heap.size ∧ L.length ≤ 7 ∧ c ≤ maxLen) := ⟨hB, hk, h, hb, hl, hcm⟩
  clear hB hk h hb hs hl hcm cB hb1 hx0 hx1 h1 hlc
  obtain ⟨at_, hat⟩ : ∃ q, lb L x.name = q := ⟨_, rfl⟩
  obtain ⟨hs_, hhs⟩ : ∃ q, hasB L x.name = q := ⟨_, rfl⟩
  rw [hat, hhs] at cF
  have HA : Hid (lb L x.name = at_) := hat
  obtain ⟨n, hn⟩ : ∃ n, L.length = n := ⟨_, rfl⟩
  have HN : Hid (L.length = n) := hn
  rw [hn] at cB1 cF
  clear hat hhs
  go_enter Tryd.func41, Tryd.ntmps41
  go_wp2_with fail
  rw [← hw1]
  clear hw1 hsz1
  clear hn
  go_region_with (go_at_call 38; refine cF.mono ?_; rintro e w2 ⟨rfl, hb2⟩; have H2 : Hid (Below w1.heap.size w1 w2) := below_of_drew hb2; clear hb2)
  all_goals clear cF
  all_goals
    have cB2 : w2.cell? ⟨B, k, none⟩ = some (.slice p n c) := (H2.out.cell (p := ⟨B, k, none⟩) (cell_lt cB1)).trans cB1
    have z0 : w2.cell? ⟨w.heap.size, 0, none⟩ = some (.string (bas x.name)) := (H2.out.cell (p := ⟨w.heap.size, 0, none⟩) (cell_lt y0)).trans y0
    have z1 : w2.cell? ⟨w.heap.size, 1, none⟩ = some (.int .i64 (x.num : Nat)) := (H2.out.cell (p := ⟨w.heap.size, 1, none⟩) (cell_lt y0)).trans (cellOf H1.out.2.2.1 1)
    have cI : Calls Tryd.prog 62 #[.slice p n c, .int .i64 (at_ : Nat), .slice (some ⟨w2.heap.size, 0, none⟩) 1 1] (w2.alloc (.cells #[.string (bas x.name), .int .i64 (x.num : Nat)] 55)).drew (Insd base (.slice p n c) (ins L x) (w2.alloc (.cells #[.string (bas x.name), .int .i64 (x.num : Nat)] 55)).drew) := by
      have hb02 : Below w1.heap.size w1 (w2.alloc (.cells #[.string (bas x.name), .int .i64 (x.num : Nat)] 55)).drew := (H2.out.alloc H2.out.size _).drew
      have hbl : Blk (w2.alloc (.cells #[.string (bas x.name), .int .i64 (x.num : Nat)] 55)).drew base (.slice p n c) L := by
        rw [← HN.out]; exact Only.ownsAny (Below.only hb02 (fun _ => False)) H1.out.2.1 (fun _ _ f => f)
      have := insert_any base at_ w2.heap.size (.slice p n c) L x _ hbl (by rw [← HA.out]; exact lb_le _ _) (by have := H0.out.2.2.2.2.1; omega) (by have := H0.out.2.2.2.1; have := hb02.size; have := H1.out.2.2.2.2; omega) (heap_alloc_new w2 _) (fun e => by
        rw [← HN.out] at e
        have := (H1.out.2.1.tag e).2.1
        have := H2.out.size; omega)
      rw [← HA.out] at this ⊢
      exact this
    have hB2 : Hid ((w2.alloc (.cells #[.string (bas x.name), .int .i64 (x.num : Nat)] 55)).drew.heap[B]? = some (.cells cs 57 (0, 0)) ∧ (Value.slice p n c).ownBlock ≠ some B) := by
      have hB1 : w1.heap[B]? = some (.cells cs 57 (0, 0)) := (H1.out.1.block B (block_lt H0.out.1)).trans H0.out.1
      refine ⟨((H2.out.alloc H2.out.size _).drew.block B (block_lt hB1)).trans hB1, fun e => ?_⟩
      rw [← HN.out] at e
      obtain ⟨_, _, cur, ht⟩ := H1.out.2.1.tag e
      rw [hB1] at ht; cases ht
    have hln : (ins L x).length = n + 1 := by rw [ins_length, HN.out]
    have hR2 : Hid ((w2.alloc (.cells #[.string (bas x.name), .int .i64 (x.num : Nat)] 55)).drew.heap[w.heap.size + 1]? = some (.cells #[.string ⟨#[]⟩, .int .i64 0] 55 (0, 0)) ∧ (Value.slice p n c).ownBlock ≠ some (w.heap.size + 1)) := by
      refine ⟨((H2.out.alloc H2.out.size _).drew.block _ (block_lt H1.out.2.2.2.1)).trans H1.out.2.2.2.1, fun e => ?_⟩
      rw [← HN.out] at e
      have := (H0.out.2.2.1.tag e).2.1
      omega
    have cJ : Calls Tryd.prog 62 #[.slice p n c, .int .i64 (at_ : Nat), .slice (some ⟨w2.heap.size, 0, none⟩) 1 1] (w2.alloc (.cells #[.string (bas x.name), .int .i64 (x.num : Nat)] 55)).drew (fun e w3 => ∃ p' c', e = .returned (.slice p' (n + 1) c') ∧ w3.cell? ⟨B, k, none⟩ = some (.slice p n c) ∧ w3.frozen? ⟨B, k, none⟩ = false ∧ w3.cell? ⟨w.heap.size + 1, 0, none⟩ = some (.string ⟨#[]⟩) ∧ w3.cell? ⟨w.heap.size + 1, 1, none⟩ = some (.int .i64 0) ∧ w3.frozen? ⟨w.heap.size + 1, 0, none⟩ = false ∧ w3.frozen? ⟨w.heap.size + 1, 1, none⟩ = false ∧ w.heap.size + 1 < w3.heap.size ∧
        Hid (w3.heap[w.heap.size + 1]? = some (.cells #[.string ⟨#[]⟩, .int .i64 0] 55 (0, 0)) ∧ w3.heap[B]? = some (.cells cs 57 (0, 0)) ∧ Blk w3 base (.slice p' (n + 1) c') (ins L x) ∧ (w2.alloc (.cells #[.string (bas x.name), .int .i64 (x.num : Nat)] 55)).drew.grownBy w3 (Value.slice p n c).ownBlock ∧ ((Value.slice p' (n + 1) c').ownBlock = (Value.slice p n c).ownBlock ∨ (Value.slice p' (n + 1) c').ownBlock = some (w2.heap.size + 1)))) := by
      refine cI.mono ?_
      rintro e w3 ⟨v', rfl, hv1, hv2, hv3⟩
      obtain ⟨p', c', rfl, _, _, _⟩ := hv1.form
      rw [hln] at hv1 hv3 ⊢
      have hB3 := (hv2.block B (block_lt hB2.out.1) (fun e => hB2.out.2 e.symm)).trans hB2.out.1
      have hR3 := (hv2.block _ (block_lt hR2.out.1) (fun e => hR2.out.2 e.symm)).trans hR2.out.1
      exact ⟨p', c', rfl, by rw [cellOf hB3 k, ← HN.out]; exact H0.out.2.1, frozenOf hB3 k, cellOf hR3 0, cellOf hR3 1, frozenOf hR3 0, frozenOf hR3 1, block_lt hR3, hR3, hB3, hv1, hv2, by simpa using hv3⟩
    clear cI hln
    have hBlt : B < w2.heap.size := cell_lt cB2
    have hxlt : w.heap.size < w2.heap.size := cell_lt z0
    clear cB1 y0
    go_wp2_with fail
  all_goals go_region_with (go_at_call 62; refine cJ.mono ?_; rintro e w3 ⟨p', c', rfl, c3, f3, r0, r1, f0, f1, hrlt, H3⟩; clear cJ)
  all_goals
    have hne : w.heap.size + 1 ≠ B := fun e => by have := block_lt H0.out.1; omega
    have H4 : Hid (Turned base B k cs (.slice p n c) (.slice p' (n + 1) c') (ins L x) w (w3.setCell ⟨B, k, none⟩ (.slice p' (n + 1) c')) ∧ (w3.setCell ⟨B, k, none⟩ (.slice p' (n + 1) c')).heap[w.heap.size + 1]? = some (.cells #[.string ⟨#[]⟩, .int .i64 0] 55 (0, 0)) ∧ (Value.slice p' (n + 1) c').ownBlock ≠ some (w.heap.size + 1)) := by
      refine turned_core (L := L) H1.out.1 H2.out H1.out.2.2.2.2 H0.out.1 ?_ H3.out.2.1 H3.out.2.2.1 H3.out.2.2.2.1 H3.out.2.2.2.2 H3.out.1
      rw [← HN.out]; exact H0.out.2.2.1
    have hBw : B < w.heap.size := block_lt H0.out.1
    generalize w3.setCell ⟨B, k, none⟩ (.slice p' (n + 1) c') = w4 at H4 ⊢
    have hBl4 : B < w4.heap.size := block_lt H4.out.1.row
    have hrl4 : w.heap.size + 1 < w4.heap.size := block_lt H4.out.2.1
    have c4 : w4.cell? ⟨B, k, none⟩ = some (.slice p' (n + 1) c') := by
      rw [cellOf H4.out.1.row k, Array.getElem?_setIfInBounds_self_of_lt]
      exact (Array.getElem?_eq_some_iff.1 H0.out.2.1).1
    have f4 : w4.frozen? ⟨B, k, none⟩ = false := frozenOf H4.out.1.row k
    have r0 : w4.cell? ⟨w.heap.size + 1, 0, none⟩ = some (.string ⟨#[]⟩) := cellOf H4.out.2.1 0
    have r1 : w4.cell? ⟨w.heap.size + 1, 1, none⟩ = some (.int .i64 0) := cellOf H4.out.2.1 1
    have f0 : w4.frozen? ⟨w.heap.size + 1, 0, none⟩ = false := frozenOf H4.out.2.1 0
    have f1 : w4.frozen? ⟨w.heap.size + 1, 1, none⟩ = false := frozenOf H4.out.2.1 1
    clear H3 H2 H1 hR2 hB2 hrlt c3 f3 hBlt hxlt cB2 z0 z1
    by_cases hful : n < 7
    · have hfI : (n : Int) + 1 ≤ 7 := by omega
      go_wp2
      refine bodyPost_ret (v := .tuple #[.agg #[.string ⟨#[]⟩, .int .i64 0], .bool false]) (by simp [results, Tryd.results41, go_sem, r0, r1]) rfl ?_
      refine ⟨.slice p' (n + 1) c', .inl ⟨by rw [HN.out]; exact hful, rfl, ?_⟩⟩
      rw [HN.out]
      refine H4.out.1.later (Only.next (Only.setCell (S := (· = w.heap.size + 1)) _ ⟨w.heap.size + 1, 0, none⟩ _ rfl) (Only.setCell (S := (· = w.heap.size + 1)) _ ⟨w.heap.size + 1, 1, none⟩ _ rfl)) (fun j hj => by omega) ?_ hBw
      exact fun g hg e => H4.out.2.2 (by rw [← e]; exact hg)
    · obtain rfl : n = 7 := by have := H0.out.2.2.2.2.1; have := HN.out; omega
      have hl8 : (ins L x).length = 8 := by rw [ins_length, HN.out]
      obtain ⟨z, hz⟩ : ∃ z, (ins L x)[7]? = some z := ⟨_, List.getElem?_eq_getElem (by omega)⟩
      obtain ⟨g', rfl, e0, e1⟩ : ∃ g', p' = some ⟨g', 0, none⟩ ∧ w4.cell? ⟨g', 14, none⟩ = some (.string (bas z.name)) ∧ w4.cell? ⟨g', 15, none⟩ = some (.int .i64 (z.num : Nat)) := by
        have hb3 := H4.out.1.blk
        rcases hb3.2 with ⟨e, _⟩ | ⟨g', cap', cur', e, hb3'⟩
        · cases e
        · have e' := e
          rw [hl8] at e'
          cases e'
          unfold Blk at hb3
          rw [hl8] at hb3
          exact ⟨g', rfl, by rw [hb3.cellAt 14 (by omega)]; exact ents_at _ 7 0 z hz (by omega), by rw [hb3.cellAt 15 (by omega)]; exact ents_at _ 7 1 z hz (by omega)⟩
      have hgB : g' ≠ B := fun e => by
        obtain ⟨_, _, cur, ht⟩ := H4.out.1.blk.tag (g := g') rfl
        rw [e, H4.out.1.row] at ht; cases ht
      have hgl : g' < w4.heap.size := cell_lt e0
      have HZ : Hid ((ins L x)[7]? = some z) := hz
      have hM : (ins L x).take 7 ++ (ins L x).drop 8 = (ins L x).take 7 := by rw [List.drop_of_length_le (by omega), List.append_nil]
      have hr4 : (w4.alloc (.cells #[.string (bas z.name), .int .i64 (z.num : Nat)] 55)).heap[w.heap.size + 1]? = some (.cells #[.string ⟨#[]⟩, .int .i64 0] 55 (0, 0)) := (heap_alloc_old w4 _ hrl4).trans H4.out.2.1
      have hz4 := heap_alloc_new w4 (.cells #[.string (bas z.name), .int .i64 (z.num : Nat)] 55)
      have cD : Calls Tryd.prog 43 #[.slice (some ⟨g', 0, none⟩) 8 c', .int .i64 7, .int .i64 8] (w4.alloc (.cells #[.string (bas z.name), .int .i64 (z.num : Nat)] 55)) (fun e w6 => ∃ p6 c6, e = .returned (.slice p6 7 c6) ∧ w6.cell? ⟨B, k, none⟩ = some (.slice (some ⟨g', 0, none⟩) 8 c') ∧ w6.frozen? ⟨B, k, none⟩ = false ∧ w6.cell? ⟨w4.heap.size, 0, none⟩ = some (.string (bas z.name)) ∧ w6.cell? ⟨w4.heap.size, 1, none⟩ = some (.int .i64 (z.num : Nat)) ∧
          w6.cell? ⟨w.heap.size + 1, 0, none⟩ = some (.string ⟨#[]⟩) ∧ w6.cell? ⟨w.heap.size + 1, 1, none⟩ = some (.int .i64 0) ∧ w6.frozen? ⟨w.heap.size + 1, 0, none⟩ = false ∧ w6.frozen? ⟨w.heap.size + 1, 1, none⟩ = false ∧ Hid (Turned base B k cs (.slice p 7 c) (.slice p6 7 c6) ((ins L x).take 7) w (w6.setCell ⟨B, k, none⟩ (.slice p6 7 c6)) ∧ (Value.slice p6 7 c6).ownBlock = some g')) := by
        refine (delete_any base 7 8 (.slice (some ⟨g', 0, none⟩) 8 c') (ins L x) _ (World.ownsRow.alloc H4.out.1.blk _) rfl (by omega) (by omega)).mono ?_
        rintro e w6 ⟨v6, rfl, hv1, hv2, hv3⟩
        rw [hM] at hv1
        obtain ⟨p6, c6, rfl, _, _, _⟩ := hv1.form
        have hl7 : ((ins L x).take 7).length = 7 := by rw [List.length_take]; omega
        rw [hl7] at hv1 hv3 ⊢
        obtain ⟨hB6, hT⟩ := turned_again H4.out.1 hv2 hv1 hv3 (fun e => by injection e with e; exact hgB e)
        have hne1 : w.heap.size + 1 ≠ g' := fun e => H4.out.2.2 (by rw [e]; rfl)
        have hR6 := (hv2.block _ (block_lt hr4) (fun e => by injection e with e; exact hne1 e)).trans hr4
        have hZ6 := (hv2.block _ (block_lt hz4) (fun e => by injection e with e; exact absurd (show w4.heap.size = g' from e) (by omega))).trans hz4
        refine ⟨p6, c6, rfl, ?_, frozenOf hB6 k, cellOf hZ6 0, cellOf hZ6 1, cellOf hR6 0, cellOf hR6 1, frozenOf hR6 0, frozenOf hR6 1, hT, hv3⟩
        rw [cellOf hB6 k, Array.getElem?_setIfInBounds_self_of_lt]
        exact (Array.getElem?_eq_some_iff.1 H0.out.2.1).1
      have hne4 : w4.heap.size ≠ B := by omega
      have hne5 : w4.heap.size ≠ w.heap.size + 1 := by omega
      have hrg : w.heap.size + 1 ≠ g' := fun e => H4.out.2.2 (by rw [e]; rfl)
      have HG : Hid (w.heap.size + 1 ≠ g') := hrg
      clear hz hl8 hM hr4 hz4 hrg
      go_wp2_with (go_at_call 43; refine cD.mono ?_; rintro e w6 ⟨p6, c6, rfl, c6', f6, l0, l1, q0, q1, g0, g1, H6⟩; clear cD)
      refine bodyPost_ret (v := .tuple #[.agg #[.string (bas z.name), .int .i64 (z.num : Nat)], .bool true]) (by simp [results, Tryd.results41, go_sem, q0, q1]) rfl ?_
      refine ⟨.slice p6 7 c6, .inr ⟨HN.out, z, HZ.out, rfl, ?_⟩⟩
      rw [HN.out]
      refine H6.out.1.later (Only.next (Only.setCell (S := (· = w.heap.size + 1)) _ ⟨w.heap.size + 1, 0, none⟩ _ rfl) (Only.setCell (S := (· = w.heap.size + 1)) _ ⟨w.heap.size + 1, 1, none⟩ _ rfl)) (fun j hj => by omega) ?_ hBw
      exact fun g hg e => HG.out (by rw [H6.out.2] at hg; injection hg with hg; omega)

end Go.Proofs.YtdocablbkafkiaaDoor.Cd
