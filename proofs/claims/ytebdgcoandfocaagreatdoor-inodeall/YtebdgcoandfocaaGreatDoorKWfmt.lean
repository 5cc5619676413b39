/-
  Format of package wal: of no device, of a small one, of one of zeros.
-/
import Derived.Test.YtebdgcoandfocaaGreatDoorKWerase

namespace Go.Proofs.YtebdgcoandfocaaGreatDoor
open Go.RowKit Go.Maps Go.Sort Go.Shelf

theorem mkf (fn : Fn) (first cap : Array Value) (w : World) : (Instr.makeFunc fn first cap).run Tryz.prog w = .ok (.func fn first cap) w := rfl

/-- A later state of the same device. -/
structure Near (w : World) (d d' : DS) : Prop where
  a : d'.a = d.a
  s : d'.s = d.s
  m : d'.m = d.m ∨ w.heap.size ≤ d'.m
theorem Near.refl (w : World) (d : DS) : Near w d d := ⟨rfl, rfl, .inl rfl⟩
theorem Near.but {w w1 w2 : World} {d d' : DS} (hn : Near w d d') (h : But d.mine w w1) (h' : But d'.mine w1 w2) : But d.mine w w2 := by
  refine ⟨h'.os.trans h.os, h'.tape.trans h.tape, h'.output.trans h.output, Nat.le_trans h.size h'.size, fun k hk hm => (h'.block k (Nat.lt_of_lt_of_le hk h.size) ?_).trans (h.block k hk hm)⟩
  rintro (e | e | e)
  · exact hm (.inl (e.trans hn.a))
  · exact hm (.inr (.inl (e.trans hn.s)))
  · rcases hn.m with h1 | h1
    · exact hm (.inr (.inr (e.trans h1)))
    · omega
theorem Near.trans {w w1 : World} {d d' d'' : DS} (h : Near w d d') (h' : Near w1 d' d'') (hs : w.heap.size ≤ w1.heap.size) : Near w d d'' := by
  refine ⟨h'.a.trans h.a, h'.s.trans h.s, ?_⟩
  rcases h'.m with e | e
  · rcases h.m with e' | e'
    · exact .inl (e.trans e')
    · exact .inr (by omega)
  · exact .inr (by omega)

/-- A block of steps is none of the device's. -/
theorem keep_steps {w w' : World} {d : DS} {g : Nat} {l : Array Value} (hg : w.heap[g]? = some (.cells l 117 (0, 0))) (hd : Dev w d) (hb : But d.mine w w') : w'.heap[g]? = w.heap[g]? :=
  hb.block g (Array.getElem?_eq_some_iff.1 hg).1 (hd.other hg (by decide) (by decide))

theorem new_vol (w : World) (o : Obj) (dv : Value) (commits turn next : Nat) (f : Option Nat) (count : Int) : IsVol ((w.alloc (.cells (volCells dv commits turn next f count) 115)).alloc o) w.heap.size dv commits turn next f count :=
  (Below.heap_alloc _ _ _ (by simp)).trans (heap_alloc_new w _)

theorem Dev.noTab {w : World} {d : DS} (h : Dev w d) (ht : Tab w) : ¬ d.mine 0 := by
  have h0 := ht 0 0 rfl
  have lt := ht.lt
  rintro (e | e | e)
  · have hx := h.dev
    rw [← e] at hx
    have := cellOf hx 0
    rw [h0] at this
    simp [devCells] at this
  · obtain ⟨cur, hr, hc, hx⟩ := h.row
    rw [← e] at hr
    obtain ⟨p, hp, _⟩ := hx 0 h.hn1
    have := cellOf hr 0
    rw [h0, hp] at this
    simp at this
  · obtain ⟨es, clock, hm, _⟩ := h.own
    rw [← e] at hm
    simp [World.cell?, hm] at h0
theorem But.tab {S : Nat → Prop} {w w' : World} (hb : But S w w') (ht : Tab w) (h0 : ¬ S 0) : Tab w' := fun k z hk =>
  (World.cell?_of_block (w := w) (hb.block 0 ht.lt h0)).trans (ht k z hk)

/-- Format is its steps. -/
theorem format_steps (dv : Value) (p : Option Addr) (hdv : dv = .pointer p) (w : World) (Q : Int → World → Prop)
    (fs : List (Nat × Value)) (hfs : fs = [(50, dp w.heap.size), (51, dp w.heap.size), (52, dv), (53, dp w.heap.size), (52, dv), (54, dp w.heap.size), (52, dv)])
    (hr : Runs Tryz.prog (w.heap.size + 1) fs ((w.alloc (.cells (volCells dv 0 1 0 none 0) 115)).alloc (.cells (fs.map stepV).toArray 117)) Q) :
    Calls Tryz.prog 35 #[dv] w fun e w' => ∃ z : Int, e = .returned (.int .i64 z) ∧ Q z w' := by
  have hent : ∀ x ∈ fs, ∀ args w, (callFunc x.1 args).run Tryz.prog w = .ok (.enter x.1 args) w := by
    subst hfs
    intro x hx
    simp only [List.mem_cons, List.not_mem_nil, or_false] at hx
    rcases hx with rfl | rfl | rfl | rfl | rfl | rfl | rfl
    · exact enters_of Tryz.func50 (by kernel_rfl) rfl
    · exact enters_of Tryz.func51 (by kernel_rfl) rfl
    · exact enters_of Tryz.func52 (by kernel_rfl) rfl
    · exact enters_of Tryz.func53 (by kernel_rfl) rfl
    · exact enters_of Tryz.func52 (by kernel_rfl) rfl
    · exact enters_of Tryz.func54 (by kernel_rfl) rfl
    · exact enters_of Tryz.func52 (by kernel_rfl) rfl
  have hc := inOrder_any (w.heap.size + 1) fs 7 _ Q hent (by rw [hfs]; simp) (by
    have := heap_alloc_new (w.alloc (.cells (volCells dv 0 1 0 none 0) 115)) (.cells (fs.map stepV).toArray 117)
    rw [World.size_alloc] at this
    exact this) hr
  have hl : fs.length = 7 := by rw [hfs]; rfl
  have hcell : (fs.map stepV).toArray = #[.func (.func 50) #[dp w.heap.size] #[], .func (.func 51) #[dp w.heap.size] #[], .func (.func 52) #[dv] #[], .func (.func 53) #[dp w.heap.size] #[], .func (.func 52) #[dv] #[], .func (.func 54) #[dp w.heap.size] #[], .func (.func 52) #[dv] #[]] := by rw [hfs]; rfl
  rw [hl, hcell] at hc
  clear hr hent hfs hl hcell
  subst hdv
  have hmf := mkf
  go_enter Tryz.func35, Tryz.ntmps35
  go_wp2_with (go_at_call 49; refine (show Calls Tryz.prog 49 _ _ _ from hc).mono ?_; rintro e w1 ⟨z, rfl, hQ⟩; clear hc)
  go_ret
  exact ⟨z, rfl, hQ⟩

/-- The device lives for k more steps. -/
def DS.lives (d : DS) (k : Int) : Prop := d.fused = true → k ≤ d.left
theorem DS.lives.alive {d : DS} {k : Int} (h : d.lives k) (hk : 1 ≤ k) : d.dead = false := by
  unfold DS.dead
  cases hf : d.fused
  · rfl
  · have := h hf; simp; omega
theorem DS.lives.flushed {d : DS} {k : Int} (h : d.lives (k + 1)) (m : Nat) : (d.flushed m).lives k := by
  intro hf
  have hf' : d.fused = true := hf
  have := h hf'
  simp [DS.flushed, stepped, hf']; omega
theorem DS.lives.wrote {d : DS} {k : Int} (h : d.lives (k + 1)) (i : Nat) (l : By) (D : DataW Value) : (d.wrote i l D).lives k := by
  intro hf
  have hf' : d.fused = true := hf
  have := h hf'
  simp [DS.wrote, stepped, hf']; omega

theorem Near.flushed {w : World} {d : DS} {m : Nat} (h : w.heap.size ≤ m) : Near w d (d.flushed m) := ⟨rfl, rfl, .inr h⟩
theorem Near.wrote (w : World) (d : DS) (i : Nat) (l : By) (D : DataW Value) : Near w d (d.wrote i l D) := ⟨rfl, rfl, .inl rfl⟩

/-- Format of a device of zeros that lives on. -/
theorem format_ok (d : DS) (w : World) (hd : Dev w d) (ht : Tab w) (hn : 16 ≤ d.n) (hz : ∀ i, i < d.n → d.B i = zeroB) (hl : d.lives 4) (hc : d.count < 900000000) :
    Calls Tryz.prog 35 #[dp d.a] w fun e w' => ∃ d', e = .returned (.int .i64 0) ∧ But d.mine w w' ∧ Near w d d' ∧ Dev w' d' ∧ d'.n = d.n ∧ d'.D = .map [] ∧ d'.B = upd d.B 0 (headB 1 0 d.n) ∧ d'.count = d.count + 4 ∧ d'.fused = d.fused := by
  refine (format_steps (dp d.a) _ rfl w (fun z w' => z = 0 ∧ ∃ d', But d.mine w w' ∧ Near w d d' ∧ Dev w' d' ∧ d'.n = d.n ∧ d'.D = .map [] ∧ d'.B = upd d.B 0 (headB 1 0 d.n) ∧ d'.count = d.count + 4 ∧ d'.fused = d.fused) _ rfl ?_).mono (by rintro e w' ⟨z, rfl, rfl, d', hB⟩; exact ⟨d', rfl, hB⟩)
  obtain ⟨w0, hw0⟩ : ∃ w0, w0 = (w.alloc (.cells (volCells (dp d.a) 0 1 0 none 0) 115)).alloc (.cells (([(50, dp w.heap.size), (51, dp w.heap.size), (52, dp d.a), (53, dp w.heap.size), (52, dp d.a), (54, dp w.heap.size), (52, dp d.a)] : List (Nat × Value)).map stepV).toArray 117) := ⟨_, rfl⟩
  rw [← hw0]
  have hB0 : Below w.heap.size w w0 := by rw [hw0]; exact ((Below.refl _ w).alloc (Nat.le_refl _) _).alloc (by simp) _
  have hv0 : IsVol w0 w.heap.size (dp d.a) 0 1 0 none 0 := by rw [hw0]; exact new_vol _ _ _ _ _ _ _ _
  obtain ⟨cs, hg0⟩ : ∃ cs, w0.heap[w.heap.size + 1]? = some (.cells cs 117 (0, 0)) := ⟨_, by
    rw [hw0]
    have := heap_alloc_new (w.alloc (.cells (volCells (dp d.a) 0 1 0 none 0) 115)) (.cells (([(50, dp w.heap.size), (51, dp w.heap.size), (52, dp d.a), (53, dp w.heap.size), (52, dp d.a), (54, dp w.heap.size), (52, dp d.a)] : List (Nat × Value)).map stepV).toArray 117)
    rw [World.size_alloc] at this
    exact this⟩
  clear hw0
  have hd0 := hd.below hB0
  refine (checkRoom_yes w.heap.size 0 1 0 none 0 d w0 hv0 hd0 hn).mono ?_
  rintro e w1 ⟨rfl, rfl⟩
  refine ⟨0, rfl, rfl, .inr ⟨rfl, ?_⟩⟩
  refine (eraseHead_zeros w.heap.size 0 1 0 none 0 d w1 hv0 hd0 hz).mono ?_
  rintro e w2 ⟨rfl, hB2⟩
  refine ⟨0, rfl, below_block hg0 hB2 ▸ hg0.symm, .inr ⟨rfl, ?_⟩⟩
  have hg2 := below_block hg0 hB2
  have hv2 := hv0.below hB2
  have hd2 := hd0.below hB2
  have b2 : But d.mine w w2 := But.of_below (hB0.trans (hB2.mono hB0.size))
  refine (dev_flush d w2 hd2 (hl.alive (by omega)) (by omega)).mono ?_
  rintro e w3 ⟨m3, rfl, hm3, hd3, b3⟩
  refine ⟨0, rfl, keep_steps hg2 hd2 b3, .inr ⟨rfl, ?_⟩⟩
  have hg3 := (keep_steps hg2 hd2 b3).trans hg2
  have hv3 := hv2.but b3 (hv2.mine hd2)
  have n3 : Near w d (d.flushed m3) := Near.flushed (Nat.le_trans b2.size hm3)
  have b3' := (Near.refl w d).but b2 b3
  refine (eraseRest_zeros w.heap.size 0 1 0 none 0 (d.flushed m3) w3 hv3 hd3 hz).mono ?_
  rintro e w4 ⟨rfl, hB4⟩
  refine ⟨0, rfl, below_block hg3 hB4 ▸ hg3.symm, .inr ⟨rfl, ?_⟩⟩
  have hg4 := below_block hg3 hB4
  have hv4 := hv3.below hB4
  have hd4 := hd3.below hB4
  have b4 := b3'.trans (But.of_below hB4)
  have l4 : (d.flushed m3).lives 3 := DS.lives.flushed (k := 3) hl m3
  refine (dev_flush (d.flushed m3) w4 hd4 (l4.alive (by omega)) (by simp [DS.flushed]; omega)).mono ?_
  rintro e w5 ⟨m5, rfl, hm5, hd5, b5⟩
  refine ⟨0, rfl, keep_steps hg4 hd4 b5, .inr ⟨rfl, ?_⟩⟩
  have hg5 := (keep_steps hg4 hd4 b5).trans hg4
  have hv5 := hv4.but b5 (hv4.mine hd4)
  have n5 : Near w d ((d.flushed m3).flushed m5) := n3.trans (Near.flushed hm5) b4.size
  have b5' := n3.but b4 b5
  have l5 : ((d.flushed m3).flushed m5).lives 2 := DS.lives.flushed (k := 2) l4 m5
  have ht5 : Tab w5 := b5'.tab ht (hd.noTab ht)
  refine (writeHead_any w.heap.size 0 1 0 none 0 ((d.flushed m3).flushed m5) w5 hv5 hd5 ht5 (by omega) (by omega) (l5.alive (by omega)) (by simp [DS.flushed]; omega)).mono ?_
  rintro e w6 ⟨rfl, b6, p6, hp6, hd6⟩
  refine ⟨0, rfl, keep_steps hg5 hd5 b6, .inr ⟨rfl, ?_⟩⟩
  have n6 := n5.trans (Near.wrote w5 ((d.flushed m3).flushed m5) 0 (headB 1 0 d.n) (loosened ((d.flushed m3).flushed m5).D 0 p6)) b5'.size
  have b6' := n5.but b5' b6
  have l6 := DS.lives.wrote (k := 1) l5 0 (headB 1 0 d.n) (loosened ((d.flushed m3).flushed m5).D 0 p6)
  refine (dev_flush _ w6 hd6 (l6.alive (by omega)) (by simp [DS.flushed, DS.wrote]; omega)).mono ?_
  rintro e w7 ⟨m7, rfl, hm7, hd7, b7⟩
  refine ⟨0, rfl, keep_steps ((keep_steps hg5 hd5 b6).trans hg5) hd6 b7, .inr ⟨rfl, rfl, _, n6.but b6' b7, n6.trans (Near.flushed hm7) b6'.size, hd7, rfl, rfl, rfl, ?_, rfl⟩⟩
  simp [DS.flushed, DS.wrote]; omega

end Go.Proofs.YtebdgcoandfocaaGreatDoor
