/-
  Mount of package wal.
-/
import Derived.Test.YtebdgcoandfocaaGreatDoorKWlog

namespace Go.Proofs.YtebdgcoandfocaaGreatDoor
open Go.RowKit Go.Maps Go.Sort Go.Shelf

/-- The steps of Mount. -/
def mntSteps (v : Nat) : List (Nat × Value) := [(50, dp v), (55, dp v), (56, dp v), (57, dp v), (58, dp v)]
theorem mnt_enters (v : Nat) : ∀ x ∈ mntSteps v, ∀ args w, (callFunc x.1 args).run Tryz.prog w = .ok (.enter x.1 args) w := by
  intro x hx
  simp only [mntSteps, List.mem_cons, List.not_mem_nil, or_false] at hx
  rcases hx with rfl | rfl | rfl | rfl | rfl
  · exact enters_of Tryz.func50 (by kernel_rfl) rfl
  · exact enters_of Tryz.func55 (by kernel_rfl) rfl
  · exact enters_of Tryz.func56 (by kernel_rfl) rfl
  · exact enters_of Tryz.func57 (by kernel_rfl) rfl
  · exact enters_of Tryz.func58 (by kernel_rfl) rfl

set_option maxRecDepth 8000 in
set_option maxHeartbeats 1000000 in
/-- Mount is its steps; then the count is taken. -/
theorem mount_steps (dv : Value) (p : Option Addr) (hdv : dv = .pointer p) (w : World) (Q : Int → World → Prop) (R : Ending → World → Prop)
    (hr : Runs Tryz.prog (w.heap.size + 1) (mntSteps w.heap.size) ((w.alloc (.cells (volCells dv 0 0 0 none 0) 115)).alloc (.cells ((mntSteps w.heap.size).map stepV).toArray 117)) Q)
    (hno : ∀ z w', z ≠ 0 → Q z w' → R (.returned (.tuple #[.pointer none, .int .i64 z])) w')
    (hyes : ∀ w', Q 0 w' → ∃ (count old : Int), Calls Tryz.prog 59 #[dv] w' (fun e w'' => e = .returned (.int .i64 count) ∧ w'' = w') ∧ w'.cell? ⟨w.heap.size, 5, none⟩ = some (.int .i64 old) ∧ w'.frozen? ⟨w.heap.size, 5, none⟩ = false ∧ R (.returned (.tuple #[dp w.heap.size, .int .i64 0])) (w'.setCell ⟨w.heap.size, 5, none⟩ (.int .i64 count))) :
    Calls Tryz.prog 36 #[dv] w R := by
  have hc := inOrder_any (w.heap.size + 1) (mntSteps w.heap.size) 5 _ Q (mnt_enters _) (by simp [mntSteps]) (by
    have := heap_alloc_new (w.alloc (.cells (volCells dv 0 0 0 none 0) 115)) (.cells ((mntSteps w.heap.size).map stepV).toArray 117)
    rw [World.size_alloc] at this
    exact this) hr
  have hl : (mntSteps w.heap.size).length = 5 := rfl
  have hcell : ((mntSteps w.heap.size).map stepV).toArray = #[.func (.func 50) #[dp w.heap.size] #[], .func (.func 55) #[dp w.heap.size] #[], .func (.func 56) #[dp w.heap.size] #[], .func (.func 57) #[dp w.heap.size] #[], .func (.func 58) #[dp w.heap.size] #[]] := rfl
  rw [hl, hcell] at hc
  have HNO : Hid (∀ z w', z ≠ 0 → Q z w' → R (.returned (.tuple #[.pointer none, .int .i64 z])) w') := hno
  have HYES : Hid (∀ w', Q 0 w' → ∃ (count old : Int), Calls Tryz.prog 59 #[dv] w' (fun e w'' => e = .returned (.int .i64 count) ∧ w'' = w') ∧ w'.cell? ⟨w.heap.size, 5, none⟩ = some (.int .i64 old) ∧ w'.frozen? ⟨w.heap.size, 5, none⟩ = false ∧ R (.returned (.tuple #[dp w.heap.size, .int .i64 0])) (w'.setCell ⟨w.heap.size, 5, none⟩ (.int .i64 count))) := hyes
  clear hr hl hcell hno hyes
  subst hdv
  have hmf := mkf
  go_enter Tryz.func36, Tryz.ntmps36
  go_wp2_with (go_at_call 49; refine Stop.out ?_)
  refine Stop.mk ?_
  refine (show Calls Tryz.prog 49 _ _ _ from hc).mono ?_
  clear hc
  rintro e w1 ⟨z, rfl, hQ⟩
  by_cases hz : z = 0
  · subst hz
    obtain ⟨count, old, c23, x5, f5, hR⟩ := HYES.out w1 hQ
    have HR : Hid (R (.returned (.tuple #[dp w.heap.size, .int .i64 0])) (w1.setCell ⟨w.heap.size, 5, none⟩ (.int .i64 count))) := hR
    clear hQ hR
    go_wp2_with (go_at_call 59; refine Calls_on c23 ?_)
    exact HR.out
  · have hzb : (z != 0) = true := by simpa using hz
    have HR : Hid (R (.returned (.tuple #[.pointer none, .int .i64 z])) w1) := HNO.out z w1 hz hQ
    clear hQ
    go_wp2
    exact HR.out

/-- A volume that is mounted. -/
structure Mounted (w W : World) (v : Nat) (d : DS) (commits turn f : Nat) (recs : List Rec) : Prop where
  vol : IsVol W v (dp d.a) commits turn d.n (some f) d.count
  fr : ∃ F, Fresh W f recs.flatten.length F (laidOn (fun _ => none) recs.flatten)
  below : Below w.heap.size w W
  flt : w.heap.size ≤ f
  vlt : w.heap.size ≤ v

theorem mount_ok (recs : List Rec) (t c : Nat) (d : DS) (w : World) (hd : Dev w d) (ht : Tab w) (hn : 16 ≤ d.n) (hdd : d.dead = false) (hD : d.D = .map []) (hb0 : d.B 0 = headB t c d.n) (hc : c < 4000000000000000000) (htu : t < 4611686018427387904)
    (hlog : LogIs d.B d.n (nbOf d.n) t (1 + nbOf d.n) recs) :
    Calls Tryz.prog 36 #[dp d.a] w fun e w' => ∃ v f, e = .returned (.tuple #[dp v, .int .i64 0]) ∧ Mounted w w' v d (c + recs.length) t f recs := by
  refine mount_steps (dp d.a) _ rfl w (fun z w' => z = 0 ∧ Below w.heap.size w w' ∧ ∃ f F, w.heap.size ≤ f ∧ IsVol w' w.heap.size (dp d.a) (c + recs.length) t d.n (some f) 0 ∧ Fresh w' f recs.flatten.length F (laidOn (fun _ => none) recs.flatten)) _ ?_ (by rintro z w' hz ⟨rfl, _⟩; exact absurd rfl hz) ?_
  · obtain ⟨w0, hw0⟩ : ∃ w0, w0 = (w.alloc (.cells (volCells (dp d.a) 0 0 0 none 0) 115)).alloc (.cells ((mntSteps w.heap.size).map stepV).toArray 117) := ⟨_, rfl⟩
    have hB0 : Below w.heap.size w w0 := by rw [hw0]; exact ((Below.refl _ w).alloc (Nat.le_refl _) _).alloc (by simp) _
    have hv0 : IsVol w0 w.heap.size (dp d.a) 0 0 0 none 0 := by rw [hw0]; exact new_vol _ _ _ _ _ _ _ _
    obtain ⟨cs, hg0⟩ : ∃ cs, w0.heap[w.heap.size + 1]? = some (.cells cs 117 (0, 0)) := ⟨_, by
      rw [hw0]
      have := heap_alloc_new (w.alloc (.cells (volCells (dp d.a) 0 0 0 none 0) 115)) (.cells ((mntSteps w.heap.size).map stepV).toArray 117)
      rw [World.size_alloc] at this
      exact this⟩
    rw [← hw0]
    clear hw0
    have hd0 := hd.below hB0
    have ht0 := below_tab hB0 ht.lt ht
    have keepG : ∀ {A B : World}, A.heap[w.heap.size + 1]? = some (.cells cs 117 (0, 0)) → But (fun k => k = w.heap.size) A B → B.heap[w.heap.size + 1]? = A.heap[w.heap.size + 1]? := fun {A B} hA hb => hb.block _ (Array.getElem?_eq_some_iff.1 hA).1 (by omega)
    refine (checkRoom_yes w.heap.size 0 0 0 none 0 d w0 hv0 hd0 hn).mono ?_
    rintro e w1 ⟨rfl, rfl⟩
    refine ⟨0, rfl, rfl, .inr ⟨rfl, ?_⟩⟩
    refine (checkLife w.heap.size 0 0 0 none 0 d w1 hv0 hd0).mono ?_
    rintro e w2 ⟨rfl, rfl⟩
    rw [hdd]
    refine ⟨0, rfl, rfl, .inr ⟨rfl, ?_⟩⟩
    refine (readHead_ok w.heap.size 0 0 0 none 0 t c d w2 hv0 hd0 ht0 hb0 (by omega) htu).mono ?_
    rintro e w3 ⟨rfl, hv3, hb3⟩
    have k3 := keepG hg0 hb3
    refine ⟨0, rfl, k3, .inr ⟨rfl, ?_⟩⟩
    have hd3 := hd0.butV hv0 hb3
    have ht3 := hb3.tab ht0 (hv0.noTab ht0)
    refine (readLog_any recs w.heap.size c t 0 none 0 d w3 hv3 hd3 ht3 hn htu hc hlog).mono ?_
    rintro e w4 ⟨f, rfl, hL⟩
    have k4 := keepG (k3.trans hg0) hL.but
    refine ⟨0, rfl, k4, .inr ⟨rfl, ?_⟩⟩
    have hd4 := hd3.butV hv3 hL.but
    refine (settle_none w.heap.size (c + recs.length) t d.n (some f) 0 d w4 hL.vol hd4 hD).mono ?_
    rintro e w5 ⟨rfl, hB5⟩
    have g4 := k4.trans (k3.trans hg0)
    refine ⟨0, rfl, below_block g4 hB5 ▸ g4.symm, .inr ⟨rfl, rfl, ?_, ?_⟩⟩
    · have hbb : Below w.heap.size w w4 := by
        have h1 : RowKit.Below w.heap.size _ w3 := hb3.below hB0.size (fun k hk => by omega)
        have h2 : Below w.heap.size w3 w4 := hL.but.below (Nat.le_trans hB0.size hb3.size) (fun k hk => by omega)
        exact (hB0.trans h1).trans h2
      exact hbb.trans (hB5.mono hbb.size)
    · obtain ⟨F, hF⟩ := hL.fr
      exact ⟨f, F, Nat.le_trans (Nat.le_trans hB0.size hb3.size) hL.flt, hL.vol.below hB5, hF.below hB5⟩
  · rintro w' ⟨_, hB, f, F, hf, hv, hF⟩
    have hd' := hd.below hB
    refine ⟨d.count, 0, dev_count d w' hd', by have := cellOf hv 5; simpa [volCells] using this, frozenOf hv 5, w.heap.size, f, rfl, ⟨hv.setK d.count, ⟨F, hF.but (S := fun k => k = w.heap.size) ((But.refl (fun k => k = w.heap.size) w').setCell ⟨w.heap.size, 5, none⟩ rfl _) (fun e => ?_) (fun k cs fr hk e => ?_)⟩, hB.setCell (p := ⟨w.heap.size, 5, none⟩) (Nat.le_refl _) _, hf, Nat.le_refl _⟩⟩
    · exact hF.noCell w.heap.size 1 _ (cellOf hv 1) e.symm
    · subst e; have := hv; rw [IsVol, hk] at this; simp at this

end Go.Proofs.YtebdgcoandfocaaGreatDoor
