/-
  Each and List of a directory that holds one name: tell, list.add.
-/
import Derived.Test.YtdocablbkafkiaaDoorFb
import Derived.Recover
namespace Go.Proofs.YtdocablbkafkiaaDoor.Cd
open Go.RowKit Go.Maps

attribute [local go_sem] Oper.semAt_some

theorem catch_tell (w : World) :
    CallsD Tryd.prog 56 #[] .returning w fun e u' w' => e = .returned (.tuple #[]) ∧ u' = .returning ∧ w' = w := by
  refine callsD_of_wpS Tryd.func56 rfl fun c₀ cs hu => ?_
  apply wpS_region
  simp [wpOpsS, go_sem, recoverD, hu, Tryd.ntmps56]
  cases c₀
  simp_all [bodyPostS, results, Tryd.results56]

set_option maxRecDepth 8000 in
set_option maxHeartbeats 400000 in
theorem tell_fn (k : Nat) (pv : Value) (x : En) (w : World) (R : World → Prop) (hent : ∀ args w, (callFunc k args).run Tryd.prog w = .ok (.enter k args) w)
    (hc : Calls Tryd.prog k #[pv, .string (bas x.name), .int .i64 (x.num : Nat)] (w.alloc (.cells #[.string (bas x.name), .int .i64 (x.num : Nat)] 55)) fun e w' => e = .returned (.tuple #[]) ∧ R w') :
    Calls Tryd.prog 35 #[.func (.func k) #[pv] #[], enV x] w fun e w' => e = .returned (.tuple #[]) ∧ R w' := by
  unfold enV
  go_enter_defers Tryd.func35, Tryd.ntmps35
  go_wp2_with fail
  refine hc.mono ?_
  rintro e w' ⟨rfl, hQ⟩
  go_wp2
  refine leaves_cons (f := 56) (args := #[]) (by simp) (by simp [go_sem]) ?_
  refine (catch_tell _).mono ?_
  rintro e u' w'' ⟨rfl, rfl, rfl⟩
  exact ⟨_, results_none rfl _ _ _, rfl, hQ⟩

/-- A list of names: its box, and its row. -/
structure LB (w : World) (base kb : Nat) (v : Value) (L : List ByteArray) : Prop where
  lo : base ≤ kb
  box : w.heap[kb]? = some (.cells #[v] 67 (0, 0))
  row : w.ownsRow base 9 1 v L.length (L.map Value.string)
theorem Tryd.info9 : (Tryd.prog.info? 9).map (fun i => (i.zero, i.size, i.bytes)) = some (some (.string ⟨#[]⟩), 1, 16) := by kernel_rfl
theorem LB.ne {w : World} {base kb : Nat} {v : Value} {L : List ByteArray} (h : LB w base kb v L) {j : Nat} (hj : v.ownBlock = some j) : j ≠ kb := by
  rintro rfl
  obtain ⟨_, _, cur, hc⟩ := own_lt h.row hj
  rw [h.box] at hc
  injection hc with hc
  injection hc with _ hc
  cases hc
theorem LB.below {w w' : World} {base kb : Nat} {v : Value} {L : List ByteArray} (h : LB w base kb v L) (hb : Below w.heap.size w w') : LB w' base kb v L :=
  ⟨h.lo, below_block h.box hb, own_below h.row hb⟩

set_option maxRecDepth 8000 in
set_option maxHeartbeats 1000000 in
theorem listAdd_any (base kb : Nat) (v0 : Value) (L : List ByteArray) (s : ByteArray) (n : Int) (w : World) (h : LB w base kb v0 L) (hl : L.length < 1000000) (hbw : base ≤ w.heap.size) :
    Calls Tryd.prog 31 #[.pointer (some ⟨kb, 0, none⟩), .string s, .int .i64 n] w fun e w' => e = .returned (.tuple #[]) ∧ (∃ v', LB w' base kb v' (L ++ [s])) ∧ Only (hS kb v0) w w' := by
  obtain ⟨k0, hk0, hx0, hx1, hx2⟩ := info_parts Tryd.info9
  have c0 : w.cell? ⟨kb, 0, none⟩ = some v0 := by rw [cellOf h.box 0]; rfl
  have f0 := frozenOf h.box 0
  obtain ⟨W1, hW1⟩ : ∃ W1, W1 = w.alloc (.cells #[.string s] 9) := ⟨_, rfl⟩
  have hb1 : Below w.heap.size w W1 := by rw [hW1]; exact (Below.refl _ w).alloc (Nat.le_refl _) _
  have hn1 : W1.heap[w.heap.size]? = some (.cells #[.string s] 9 (0, 0)) := by rw [hW1]; exact heap_alloc_new w _
  have h1 := h.below hb1
  have hs1 : W1.heap.size = w.heap.size + 1 := by rw [hW1]; simp
  obtain ⟨v1, W2, hrun, hown, hgr, _, hpl⟩ := run_append_own_at (P := Tryd.prog) (w := W1) base 67 67 9 k0 _ 1 16 Tryd.underlying67 hk0 hx0 hx1 hx2 rfl (by decide) v0 L.length _ h1.row ⟨w.heap.size, 0, none⟩ 1 1 [.string s] rfl
    (fun j u hj => by
      rw [Addr.add_lit, Nat.zero_add, cellOf hn1 j]
      simpa using hj) (by intro u hu; simp at hu; subst hu; rfl) (by unfold maxLen; omega) (by omega) (by omega)
  have hbox2 : W2.heap[kb]? = some (.cells #[v0] 67 (0, 0)) := (hgr.block kb (block_lt h1.box) (fun e => h1.ne e.symm rfl)).trans h1.box
  have hv1kb : ∀ j, v1.ownBlock = some j → j ≠ kb := by
    intro j hj
    rcases hpl with e | e
    · rw [hj] at e; exact h1.ne e.symm
    · rw [hj] at e; cases e
      have := block_lt h.box
      omega
  obtain ⟨p1, k1, hv1⟩ : ∃ p1 k1, v1 = .slice p1 (L.length + 1) k1 := by
    rcases hown.2 with ⟨e, e2⟩ | ⟨q, cap, cur, e, _⟩
    · simp at e2
    · exact ⟨_, _, e⟩
  obtain ⟨W3, hW3⟩ : ∃ W3, W3 = W2.setCell ⟨kb, 0, none⟩ v1 := ⟨_, rfl⟩
  have H3 : Hid (LB W3 base kb v1 (L ++ [s]) ∧ Only (hS kb v0) w W3) := by
    refine ⟨⟨h.lo, ?_, ?_⟩, ?_⟩
    · rw [hW3]; simp [World.setCell, Array.getElem?_modify, hbox2]
    · rw [hW3, List.length_append, List.length_singleton, List.map_append]
      exact Only.owns (Only.setCell (S := (· = kb)) _ _ _ rfl) hown (fun j hj e => hv1kb j hj e)
    · rw [hW3]
      exact ((Below.only hb1 _).next (Only.grown hgr (fun i hi => .inr hi))).next (Only.setCell _ _ _ (.inl rfl))
  have c2 : W2.cell? ⟨kb, 0, none⟩ = some v0 := by rw [cellOf hbox2 0]; rfl
  have f2 : W2.frozen? ⟨kb, 0, none⟩ = false := frozenOf hbox2 0
  rw [hW1] at hrun
  clear h h1 hown hgr hpl hbox2 hv1kb hb1 hn1 hk0 hx0 hx1 hx2 hs1 hW1
  rw [hv1] at hrun hW3
  go_enter Tryd.func31, Tryd.ntmps31
  go_wp2_with (at_builtin; refine Lib.wpList_append_run _ rfl _ _ _ _ rfl _ _ rfl rfl _ _ hrun ?_)
  rw [← hW3]
  go_end0
  exact ⟨rfl, ⟨_, H3.out.1⟩, H3.out.2⟩

end Go.Proofs.YtdocablbkafkiaaDoor.Cd
