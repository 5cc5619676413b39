/-
  What is found behind a Format that may have died, and a crash.
-/
import Derived.Test.YtcchhalmlkdepaaGreatDoorDfull
import Derived.Test.YtcchhalmlkdepaaGreatDoorWmnt

/-
  Fuse of package device.
-/
namespace Go.Proofs.YtcchhalmlkdepaaGreatDoor
open Go.RowKit Go.Maps

set_option maxRecDepth 8000 in
set_option maxHeartbeats 400000 in
theorem fuse_nil (n : Int) (w : World) :
    Calls Tryz.prog 18 #[.pointer none, .int .i64 n] w fun e w' => e = .returned (.tuple #[]) ∧ w' = w := by
  go_enter Tryz.func18, Tryz.ntmps18
  go_wp2_with (go_at_call 41; refine Calls_on (dead_nil _) ?_)
  first | go_end0 | refine bodyPost_ret (results_none rfl _ _ _) rfl ?_
  exact ⟨rfl, rfl⟩

set_option maxRecDepth 8000 in
set_option maxHeartbeats 400000 in
theorem fuse_dead (n : Int) (a : Nat) (v : Value) (m : Nat) (fused : Bool) (left count : Int) (w : World) (h : IsDevAt w a v m fused left count)
    (hd : (fused && decide (left < 1)) = true) :
    Calls Tryz.prog 18 #[.pointer (some ⟨a, 0, none⟩), .int .i64 n] w fun e w' => e = .returned (.tuple #[]) ∧ w' = w := by
  have c21 := dead_any a v m fused left count w h
  rw [hd] at c21
  clear h hd
  go_enter Tryz.func18, Tryz.ntmps18
  go_wp2_with (go_at_call 41; refine Calls_on c21 ?_)
  first | go_end0 | refine bodyPost_ret (results_none rfl _ _ _) rfl ?_
  exact ⟨rfl, rfl⟩

set_option maxRecDepth 8000 in
set_option maxHeartbeats 400000 in
theorem fuse_yes (n : Int) (a : Nat) (v : Value) (m : Nat) (fused : Bool) (left count : Int) (w : World) (h : IsDevAt w a v m fused left count)
    (hd : alive fused left) :
    Calls Tryz.prog 18 #[.pointer (some ⟨a, 0, none⟩), .int .i64 n] w fun e w' => e = .returned (.tuple #[]) ∧ IsDevAt w' a v m true n count ∧ But (fun k => k = a) w w' := by
  have c21 := dead_any a v m fused left count w h
  rw [hd] at c21
  have k2 := cellOf h 2
  have f2 := frozenOf h 2
  have k3 := cellOf h 3
  have f3 := frozenOf h 3
  simp [devCells] at k2 k3
  have HH : Hid (IsDevAt w a v m fused left count) := h
  clear h hd
  go_enter Tryz.func18, Tryz.ntmps18
  go_wp2_with (go_at_call 41; refine Calls_on c21 ?_)
  first | go_end0 | refine bodyPost_ret (results_none rfl _ _ _) rfl ?_
  exact ⟨rfl, (HH.out.set2 _).set3 _, ((But.refl (fun k => k = a) w).setCell ⟨a, 2, none⟩ rfl _).setCell ⟨a, 3, none⟩ rfl _⟩

end Go.Proofs.YtcchhalmlkdepaaGreatDoor

/-
  A fuse; Format of a device of zeros whose fuse may burn within.
-/
namespace Go.Proofs.YtcchhalmlkdepaaGreatDoor
open Go.RowKit Go.Maps Go.Sort Go.Shelf

/-- Behind a Fuse. -/
def DS.fusedBy (d : DS) (n : Int) : DS := { d with fused := true, left := n }

theorem dev_fuse (d : DS) (n : Int) (w : World) (h : Dev w d) (hd : d.dead = false) (hn : n ≤ 9223372036854775807) :
    Calls Tryz.prog 18 #[dp d.a, .int .i64 n] w fun e w' => e = .returned (.tuple #[]) ∧ Dev w' (d.fusedBy n) ∧ But d.mine w w' := by
  refine (fuse_yes n d.a _ d.m d.fused d.left d.count w h.dev hd).mono ?_
  rintro e w' ⟨rfl, hdv, hb⟩
  refine ⟨rfl, ⟨hdv, ?_, ?_, h.aNs, h.hn1, h.hn, h.len, h.cnt, h.nnc, fun _ => hn⟩, hb.mono (fun k _ hk => .inl hk)⟩
  · obtain ⟨cur, hr, hcs, hx⟩ := h.row
    refine ⟨cur, (hb.block d.s h.slt (fun e => h.aNs e.symm)).trans hr, hcs, fun i hi => ?_⟩
    obtain ⟨p, hp, hh⟩ := hx i hi
    exact ⟨p, hp, hh.keep fun g hg' => hb.block g (Array.getElem?_eq_some_iff.1 hg').1 (fun e => h.blk hg' (.inl e))⟩
  · have hlt := h.mlt
    obtain ⟨es, clock, he, r⟩ := h.own
    exact ⟨es, clock, (hb.block d.m hlt (fun e => h.am e.symm)).trans he, r⟩

/-- How a Format ends: it died ahead of the head; it died with the head loose; it is done. -/
def FmtEnd (w' : World) (d d' : DS) (z : Int) : Prop :=
  (z = 5 ∧ d'.D = .map [] ∧ d'.B = d.B) ∨ (z = 5 ∧ (∃ p, d'.D = loosened (.map []) 0 p ∧ Holds512 w' p (zeroB.map u8v)) ∧ d'.B = upd d.B 0 (headB 1 0 d.n)) ∨ (z = 0 ∧ d'.D = .map [] ∧ d'.B = upd d.B 0 (headB 1 0 d.n))

theorem alive_of {d : DS} (h : ¬ d.dead = true) : d.dead = false := by cases hx : d.dead <;> simp_all

theorem format_fused (d : DS) (w : World) (hd : Dev w d) (ht : Tab w) (hn : 16 ≤ d.n) (hz : ∀ i, i < d.n → d.B i = zeroB) (hD : d.D = .map []) (hc : d.count < 900000000) :
    Calls Tryz.prog 17 #[dp d.a] w fun e w' => ∃ z d', e = .returned (.int .i64 z) ∧ But d.mine w w' ∧ Near w d d' ∧ Dev w' d' ∧ d'.n = d.n ∧ FmtEnd w' d d' z := by
  refine (format_steps (dp d.a) _ rfl w (fun z w' => ∃ d', But d.mine w w' ∧ Near w d d' ∧ Dev w' d' ∧ d'.n = d.n ∧ FmtEnd w' d d' z) _ rfl ?_).mono (by rintro e w' ⟨z, rfl, d', hB⟩; exact ⟨z, d', rfl, hB⟩)
  obtain ⟨w0, hw0⟩ : ∃ w0, w0 = (w.alloc (.cells (volCells (dp d.a) 0 1 0 none 0) 68)).alloc (.cells (([(29, dp w.heap.size), (38, dp w.heap.size), (26, dp d.a), (39, dp w.heap.size), (26, dp d.a), (40, dp w.heap.size), (26, dp d.a)] : List (Nat × Value)).map stepV).toArray 42) := ⟨_, rfl⟩
  rw [← hw0]
  have hB0 : Below w.heap.size w w0 := by rw [hw0]; exact ((Below.refl _ w).alloc (Nat.le_refl _) _).alloc (by simp) _
  have hv0 : IsVol w0 w.heap.size (dp d.a) 0 1 0 none 0 := by rw [hw0]; exact new_vol _ _ _ _ _ _ _ _
  obtain ⟨cs, hg0⟩ : ∃ cs, w0.heap[w.heap.size + 1]? = some (.cells cs 42 (0, 0)) := ⟨_, by
    rw [hw0]
    have := heap_alloc_new (w.alloc (.cells (volCells (dp d.a) 0 1 0 none 0) 68)) (.cells (([(29, dp w.heap.size), (38, dp w.heap.size), (26, dp d.a), (39, dp w.heap.size), (26, dp d.a), (40, dp w.heap.size), (26, dp d.a)] : List (Nat × Value)).map stepV).toArray 42)
    rw [World.size_alloc] at this
    exact this⟩
  clear hw0
  have hd0 := hd.below hB0
  refine (checkRoom_yes w.heap.size 0 1 0 none 0 d w0 hv0 hd0 hn).mono ?_
  rintro e w1 ⟨rfl, rfl⟩
  refine ⟨0, rfl, rfl, .inr ⟨rfl, ?_⟩⟩
  refine (eraseHead_zeros w.heap.size 0 1 0 none 0 d w1 hv0 hd0 hz).mono ?_
  rintro e w2 ⟨rfl, hB2⟩
  refine ⟨0, rfl, below_block hg0 hB2 ▸ hg0.symm, .inr ⟨rfl, ?_⟩⟩
  have hg2 := below_block hg0 hB2
  have hv2 := hv0.below hB2
  have hd2 := hd0.below hB2
  have b2 : But d.mine w w2 := But.of_below (hB0.trans (hB2.mono hB0.size))
  by_cases x2 : d.dead = true
  · refine (dev_flush_dead d w2 hd2 x2).mono ?_
    rintro e w3 ⟨rfl, rfl⟩
    exact ⟨5, rfl, rfl, .inl ⟨by decide, d, b2, Near.refl w d, hd2, rfl, .inl ⟨rfl, hD, rfl⟩⟩⟩
  refine (dev_flush d w2 hd2 (alive_of x2) (by omega)).mono ?_
  rintro e w3 ⟨m3, rfl, hm3, hd3, b3⟩
  refine ⟨0, rfl, keep_steps hg2 hd2 b3, .inr ⟨rfl, ?_⟩⟩
  have hg3 := (keep_steps hg2 hd2 b3).trans hg2
  have hv3 := hv2.but b3 (hv2.mine hd2)
  have n3 : Near w d (d.flushed m3) := Near.flushed (Nat.le_trans b2.size hm3)
  have b3' := (Near.refl w d).but b2 b3
  refine (eraseRest_zeros w.heap.size 0 1 0 none 0 (d.flushed m3) w3 hv3 hd3 hz).mono ?_
  rintro e w4 ⟨rfl, hB4⟩
  refine ⟨0, rfl, below_block hg3 hB4 ▸ hg3.symm, .inr ⟨rfl, ?_⟩⟩
  have hg4 := below_block hg3 hB4
  have hv4 := hv3.below hB4
  have hd4 := hd3.below hB4
  have b4 := b3'.trans (But.of_below hB4)
  by_cases x4 : (d.flushed m3).dead = true
  · refine (dev_flush_dead (d.flushed m3) w4 hd4 x4).mono ?_
    rintro e w5 ⟨rfl, rfl⟩
    exact ⟨5, rfl, rfl, .inl ⟨by decide, d.flushed m3, b4, n3, hd4, rfl, .inl ⟨rfl, rfl, rfl⟩⟩⟩
  refine (dev_flush (d.flushed m3) w4 hd4 (alive_of x4) (by simp [DS.flushed]; omega)).mono ?_
  rintro e w5 ⟨m5, rfl, hm5, hd5, b5⟩
  refine ⟨0, rfl, keep_steps hg4 hd4 b5, .inr ⟨rfl, ?_⟩⟩
  have hg5 := (keep_steps hg4 hd4 b5).trans hg4
  have hv5 := hv4.but b5 (hv4.mine hd4)
  have n5 : Near w d ((d.flushed m3).flushed m5) := n3.trans (Near.flushed hm5) b4.size
  have b5' := n3.but b4 b5
  have ht5 : Tab w5 := b5'.tab ht (hd.noTab ht)
  by_cases x5 : ((d.flushed m3).flushed m5).dead = true
  · refine (writeHead_dead w.heap.size 0 1 0 none 0 ((d.flushed m3).flushed m5) w5 hv5 hd5 ht5 (by omega) (by omega) x5).mono ?_
    rintro e w6 ⟨rfl, hB6⟩
    exact ⟨5, rfl, below_block hg5 hB6 ▸ hg5.symm, .inl ⟨by decide, _, b5'.trans (But.of_below hB6), n5, hd5.below hB6, rfl, .inl ⟨rfl, rfl, rfl⟩⟩⟩
  refine (writeHead_any w.heap.size 0 1 0 none 0 ((d.flushed m3).flushed m5) w5 hv5 hd5 ht5 (by omega) (by omega) (alive_of x5) (by simp [DS.flushed]; omega)).mono ?_
  rintro e w6 ⟨rfl, b6, p6, hp6, hd6⟩
  refine ⟨0, rfl, keep_steps hg5 hd5 b6, .inr ⟨rfl, ?_⟩⟩
  have n6 := n5.trans (Near.wrote w5 ((d.flushed m3).flushed m5) 0 (headB 1 0 d.n) (loosened ((d.flushed m3).flushed m5).D 0 p6)) b5'.size
  have b6' := n5.but b5' b6
  by_cases x6 : (((d.flushed m3).flushed m5).wrote 0 (headB 1 0 d.n) (loosened ((d.flushed m3).flushed m5).D 0 p6)).dead = true
  · refine (dev_flush_dead _ w6 hd6 x6).mono ?_
    rintro e w7 ⟨rfl, rfl⟩
    refine ⟨5, rfl, rfl, .inl ⟨by decide, _, b6', n6, hd6, rfl, .inr (.inl ⟨rfl, ⟨p6, rfl, ?_⟩, rfl⟩)⟩⟩
    have e0 : ((d.flushed m3).flushed m5).B 0 = zeroB := hz 0 (by omega)
    rw [e0] at hp6
    exact hp6
  refine (dev_flush _ w6 hd6 (alive_of x6) (by simp [DS.flushed, DS.wrote]; omega)).mono ?_
  rintro e w7 ⟨m7, rfl, hm7, hd7, b7⟩
  exact ⟨0, rfl, keep_steps ((keep_steps hg5 hd5 b6).trans hg5) hd6 b7, .inr ⟨rfl, _, n6.but b6' b7, n6.trans (Near.flushed hm7) b6'.size, hd7, rfl, .inr (.inr ⟨rfl, rfl, rfl⟩)⟩⟩

end Go.Proofs.YtcchhalmlkdepaaGreatDoor

/-
  A crash of a device whose head alone is loose.
-/
namespace Go.Proofs.YtcchhalmlkdepaaGreatDoor
open Go.RowKit Go.Maps Go.Sort Go.Shelf

theorem loosened_keys (p : Option Addr) : keys (loosened (.map []) 0 p) = [0] := by
  have h : intKeys (loosened (.map []) 0 p) = [0] := by rfl
  unfold keys
  rw [h]
  exact List.mergeSort_singleton 0
theorem loosened_at (p : Option Addr) : (loosened (.map []) 0 p).atKey (.int .i64 (0 : Nat)) (ptrD none) = ptrD p := by rfl

/-- Crash of a device whose block 0 alone is loose, and was zeros. -/
theorem dev_crash_head (kv : Value) (b : Bool) (p : Option Addr) (d : DS) (w : World) (h : Dev w d) (hD : d.D = loosened (.map []) 0 p) (hp : Holds512 w p (zeroB.map u8v))
    (hk : ∀ W, Below w.heap.size w W → Calls Tryz.prog 37 #[kv, .int .i64 0] W fun e W' => e = .returned (.bool b) ∧ Below W.heap.size W W') :
    Calls Tryz.prog 15 #[dp d.a, kv] w fun e w' => ∃ a s c m, e = .returned (.pointer (some ⟨a, 0, none⟩)) ∧ Dev w' { newDS a s c m d.n with B := if b then d.B else upd d.B 0 zeroB } ∧ Below w.heap.size w w' ∧ w.heap.size ≤ a ∧ w.heap.size ≤ s ∧ w.heap.size ≤ m := by
  obtain ⟨cur, hr, hcs, hx⟩ := h.row
  have hown := h.own
  rw [hD] at hown
  have hlt := h.mlt
  have hn1 := h.hn1
  refine (crash_any kv d.a d.s d.n d.c d.m d.nn (loosened (.map []) 0 p) cur d.fused d.left d.count w h.dev hr hown h.hn1 h.hn hcs (fun i hi => (hx i hi).imp fun p hp => hp.1) (by show 1 ≤ maxLen; unfold maxLen; omega) (by show 1 * 8 ≤ _; omega)
    (by rw [loosened_keys]; intro x hx; simp at hx; subst hx; omega) (by rw [loosened_keys]; simp) (fun _ => b) (fun _ => False) (fun _ h => h.elim) (fun _ W => But (fun _ => False) w W) (But.refl _ w)
    (fun k W W' h1 h2 => ⟨h2.os.trans h1.os, h2.tape.trans h1.tape, h2.output.trans h1.output, Nat.le_trans h1.size h2.size, fun g hg _ => (h2.block g (Nat.lt_of_lt_of_le hg h1.size) (by omega)).trans (h1.block g hg (fun h => h))⟩)
    (fun k x W hk' h1 => ?_)).mono ?_
  · rw [loosened_keys] at hk'
    have hk0 : k = 0 := by have := (List.getElem?_eq_some_iff.1 hk').1; simp at this; exact this
    subst hk0
    simp at hk'
    subst hk'
    refine (hk W (h1.below (Nat.le_refl _) (fun _ h => h.elim))).mono ?_
    rintro e W' ⟨rfl, hB⟩
    exact ⟨rfl, h1.trans (But.of_below hB), But.of_below hB⟩
  rintro e w' ⟨a', g, cap, m', rfl, hin, _⟩
  obtain ⟨curk, hrk, hcap, hrow⟩ := hin.row
  have hB : Below w.heap.size w w' := hin.but.below (Nat.le_refl _) (fun _ h => h.elim)
  have hlen : ∀ i, i < d.n → ((if b then d.B else upd d.B 0 zeroB) i).length = 512 := by
    intro i hi
    cases b
    · simp only [Bool.false_eq_true, if_false, upd]
      split
      · exact zeroB_length
      · exact h.len i hi
    · exact h.len i hi
  refine ⟨a', g, cap, m', rfl, ⟨hin.dev, ⟨curk, hrk, hcap, fun i hi => ?_⟩, ownsMap_empty hin.map, hin.ag, h.hn1, h.hn, hlen, Int.le_refl _, Int.le_refl _, fun h => by cases h⟩, hB, hin.ga, hin.gg, hin.gm⟩
  obtain ⟨q, hq, hq1, hq2⟩ := hrow i hi
  refine ⟨q, hq, ?_⟩
  rw [loosened_keys] at hq1 hq2
  obtain ⟨p', hp', hh⟩ := hx i hi
  have keepH : ∀ {q l}, Holds512 w q l → Holds512 w' q l := fun hh => hh.keep fun g' hg' => hB.block g' (Array.getElem?_eq_some_iff.1 hg').1
  by_cases hi0 : i = 0 ∧ b = false
  · obtain ⟨rfl, rfl⟩ := hi0
    have := hq1 ⟨by simp, rfl⟩
    rw [loosened_at] at this
    have e : p = q := by simpa [ptrD] using this
    subst e
    exact keepH hp
  · have := hq2 (by rintro ⟨h1, h2⟩; simp at h1; exact hi0 ⟨h1, h2⟩)
    rw [hp'] at this
    cases this
    have e : (if b then d.B else upd d.B 0 zeroB) i = d.B i := by
      cases b
      · have : i ≠ 0 := fun e => hi0 ⟨e, rfl⟩
        simp [upd, this]
      · rfl
    show Holds512 w' q (((if b then d.B else upd d.B 0 zeroB) i).map u8v)
    rw [e]
    exact keepH hh

/-- Crash, with whatever keeper, of a device that has nothing loose. -/
theorem dev_crash_still (kv : Value) (d : DS) (w : World) (h : Dev w d) (hD : d.D = .map []) :
    Calls Tryz.prog 15 #[dp d.a, kv] w fun e w' => ∃ a s c m, e = .returned (.pointer (some ⟨a, 0, none⟩)) ∧ Dev w' { newDS a s c m d.n with B := d.B } ∧ Below w.heap.size w w' ∧ w.heap.size ≤ a ∧ w.heap.size ≤ s ∧ w.heap.size ≤ m := by
  obtain ⟨cur, hr, hcs, hx⟩ := h.row
  have hown := h.own
  rw [hD] at hown
  have hlt := h.mlt
  refine (crash_any kv d.a d.s d.n d.c d.m d.nn (.map []) cur d.fused d.left d.count w h.dev hr hown h.hn1 h.hn hcs (fun i hi => (hx i hi).imp fun p hp => hp.1) (by show 0 ≤ maxLen; omega) (by show 0 * 8 ≤ _; omega)
    (by rw [keys_empty]; intro x hx; cases hx) (by rw [keys_empty]; simp) (fun _ => false) (fun _ => False) (fun _ h => h.elim) (fun _ _ => True) trivial (fun _ _ _ _ _ => trivial)
    (fun k x W hk _ => by rw [keys_empty] at hk; cases hk)).mono ?_
  rintro e w' ⟨a', g, cap, m', rfl, hin, _⟩
  obtain ⟨curk, hrk, hcap, hrow⟩ := hin.row
  have hB : Below w.heap.size w w' := hin.but.below (Nat.le_refl _) (fun _ h => h.elim)
  refine ⟨a', g, cap, m', rfl, ⟨hin.dev, ⟨curk, hrk, hcap, fun i hi => ?_⟩, ownsMap_empty hin.map, hin.ag, h.hn1, h.hn, h.len, Int.le_refl _, Int.le_refl _, fun h => by cases h⟩, hB, hin.ga, hin.gg, hin.gm⟩
  obtain ⟨q, hq, _, hq2⟩ := hrow i hi
  obtain ⟨p, hp, hh⟩ := hx i hi
  have := hq2 (by rw [keys_empty]; simp)
  rw [hp] at this
  cases this
  exact ⟨_, hq, hh.keep fun g' hg' => hB.block g' (Array.getElem?_eq_some_iff.1 hg').1⟩

end Go.Proofs.YtcchhalmlkdepaaGreatDoor

/-
  Keeper of the law: which loose blocks are kept.
-/
namespace Go.Proofs.YtcchhalmlkdepaaGreatDoor
open Go.RowKit Go.Maps Go.Sort Go.Shelf

/-- A slice of truths. -/
def Bools (W : World) (p : Option Addr) (ks : List Bool) : Prop := 0 < ks.length → ∃ kb ko, p = some ⟨kb, ko, none⟩ ∧ ∀ j x, ks[j]? = some x → W.cell? ⟨kb, ko + j, none⟩ = some (.bool x)
theorem Bools.below {W W' : World} {p : Option Addr} {ks : List Bool} {N : Nat} (h : Bools W p ks) (hb : Below N W W') (hN : W.heap.size ≤ N) : Bools W' p ks := by
  intro hp
  obtain ⟨kb, ko, e, hc⟩ := h hp
  exact ⟨kb, ko, e, fun j x hj => (hb.cell (p := ⟨kb, ko + j, none⟩) (Nat.lt_of_lt_of_le (World.block_lt_of_cell? W _ (hc j x hj)) hN)).trans (hc j x hj)⟩

set_option maxRecDepth 8000 in
set_option maxHeartbeats 400000 in
theorem keeper_any (p : Option Addr) (n c : Nat) (W : World) :
    Calls Tryz.prog 19 #[.slice p n c] W fun e w' => e = .returned (.func (.func 42) #[] #[.pointer (some ⟨W.heap.size, 0, none⟩)]) ∧ w' = W.alloc (.cells #[.slice p n c] 47) := by
  have hmf := mkf
  go_enter Tryz.func19, Tryz.ntmps19
  go_wp2
  go_ret
  exact ⟨rfl, rfl⟩

set_option maxRecDepth 8000 in
set_option maxHeartbeats 1000000 in
theorem keeper1_zero (g : Nat) (p : Option Addr) (c : Nat) (ks : List Bool) (W : World) (hg : W.heap[g]? = some (.cells #[.slice p ks.length c] 47 (0, 0))) (hl : ks.length < 9223372036854775808) (hks : Bools W p ks) :
    Calls Tryz.prog 42 #[.int .i64 0, .pointer (some ⟨g, 0, none⟩)] W fun e w' => e = .returned (.bool (ks.headD false)) ∧ ∃ k, w' = W.drewN k := by
  have hc := cellOf hg 0
  simp at hc
  clear hg
  by_cases hpos : 0 < ks.length
  · obtain ⟨kb, ko, rfl, hx⟩ := hks hpos
    obtain ⟨x, hy⟩ : ∃ x, ks[0]? = some x := ⟨_, List.getElem?_eq_getElem hpos⟩
    have hh : ks.headD false = x := by cases ks with | nil => simp at hpos | cons a l => simpa using hy
    have HH : Hid (ks.headD false = x) := hh
    have h0 := hx 0 x hy
    rw [Nat.add_zero] at h0
    have hposI : (0 : Int) < ks.length := by omega
    have e3 : Int.tmod 0 (ks.length : Int) = 0 := by simp
    clear hks hx hh hy
    go_enter Tryz.func42, Tryz.ntmps42
    go_wp2_with fail
    go_quiet (fail)
    go_wp2
    go_ret
    rw [HH.out]
    exact ⟨by simp, _, rfl⟩
  · have hh : ks.headD false = false := by cases ks with | nil => rfl | cons a l => simp at hpos
    have HH : Hid (ks.headD false = false) := hh
    have hpd : decide ((0 : Int) < (ks.length : Int)) = false := decide_eq_false (by omega)
    clear hks hh
    go_enter Tryz.func42, Tryz.ntmps42
    go_wp2_with fail
    go_quiet (fail)
    go_wp2
    go_ret
    rw [HH.out]
    exact ⟨by simp, _, rfl⟩

/-- kept, asked of block 0 by a Keeper. -/
theorem kept_keeper (g : Nat) (p : Option Addr) (c : Nat) (ks : List Bool) (W : World) (hg : W.heap[g]? = some (.cells #[.slice p ks.length c] 47 (0, 0))) (hl : ks.length < 9223372036854775808) (hks : Bools W p ks) :
    Calls Tryz.prog 37 #[.func (.func 42) #[] #[.pointer (some ⟨g, 0, none⟩)], .int .i64 0] W fun e w' => e = .returned (.bool (ks.headD false)) ∧ Below W.heap.size W w' := by
  refine (kept_fn 0 42 _ W (fun b W' => b = ks.headD false ∧ Below W.heap.size W W') (enters_of Tryz.func42 (by kernel_rfl) rfl) ?_).mono ?_
  · show Calls Tryz.prog 42 #[.int .i64 0, .pointer (some ⟨g, 0, none⟩)] W _
    refine (keeper1_zero g p c ks W hg hl hks).mono ?_
    rintro e W' ⟨rfl, k, rfl⟩
    exact ⟨_, rfl, rfl, below_drewN (Below.refl _ W) k⟩
  · rintro e W' ⟨b, rfl, rfl, hB⟩
    exact ⟨rfl, hB⟩

end Go.Proofs.YtcchhalmlkdepaaGreatDoor

namespace Go.Proofs.YtcchhalmlkdepaaGreatDoor
open Go.RowKit Go.Maps Go.Sort Go.Shelf

/-- The device behind the crash: no head, and the format has died; or the head, and zeros. -/
structure FoundD (w w' : World) (n : Nat) (d : DS) (z : Int) : Prop where
  dev : Dev w' d
  below : Below w.heap.size w w'
  eqn : d.n = n
  D : d.D = .map []
  dead : d.dead = false
  what : (z = 5 ∧ opened (d.B 0) = none) ∨ ((z = 0 ∨ z = 5) ∧ d.B 0 = headB 1 0 n ∧ ∀ i, 0 < i → i < n → d.B i = zeroB)

theorem crash_found (g : Nat) (p : Option Addr) (c : Nat) (ks : List Bool) (d0 d : DS) (z : Int) (w0 w : World) (hd : Dev w d) (hdn : d.n = d0.n) (hw : Below w0.heap.size w0 w) (hz : ∀ i, i < d0.n → d0.B i = zeroB) (hn : 1 ≤ d0.n) (he : FmtEnd w0 d0 d z)
    (hg : w.heap[g]? = some (.cells #[.slice p ks.length c] 47 (0, 0))) (hl : ks.length < 9223372036854775808) (hks : Bools w p ks) :
    Calls Tryz.prog 15 #[dp d.a, .func (.func 42) #[] #[.pointer (some ⟨g, 0, none⟩)]] w fun e w' => ∃ d', e = .returned (dp d'.a) ∧ FoundD w w' d0.n d' z := by
  rcases he with ⟨rfl, hD, hB⟩ | ⟨rfl, ⟨q, hD, hq⟩, hB⟩ | ⟨rfl, hD, hB⟩
  · refine (dev_crash_still _ d w hd hD).mono ?_
    rintro e w' ⟨a, s, c', m, rfl, hd', hb, _⟩
    refine ⟨_, rfl, hd', hb, hdn, rfl, rfl, .inl ⟨rfl, ?_⟩⟩
    show opened (d.B 0) = none
    rw [hB, hz 0 hn]
    exact opened_zero
  · have hq' : Holds512 w q (zeroB.map u8v) := hq.keep fun g' hg' => hw.block g' (Array.getElem?_eq_some_iff.1 hg').1
    refine (dev_crash_head _ (ks.headD false) q d w hd hD hq' (fun W hW => kept_keeper g p c ks W (below_block hg hW) hl (hks.below hW (Nat.le_refl _)))).mono ?_
    rintro e w' ⟨a, s, c', m, rfl, hd', hb, _⟩
    refine ⟨_, rfl, hd', hb, hdn, rfl, rfl, ?_⟩
    cases ks.headD false
    · left
      refine ⟨rfl, ?_⟩
      show opened (upd d.B 0 zeroB 0) = none
      exact opened_zero
    · right
      refine ⟨.inr rfl, ?_, fun i h0 hi => ?_⟩
      · show d.B 0 = _
        rw [hB]; simp [upd]
      · show d.B i = _
        rw [hB]
        have : i ≠ 0 := by omega
        simp only [upd, this, if_false]
        exact hz i hi
  · refine (dev_crash_still _ d w hd hD).mono ?_
    rintro e w' ⟨a, s, c', m, rfl, hd', hb, _⟩
    refine ⟨_, rfl, hd', hb, hdn, rfl, rfl, .inr ⟨.inl rfl, ?_, fun i h0 hi => ?_⟩⟩
    · show d.B 0 = _
      rw [hB]; simp [upd]
    · show d.B i = _
      rw [hB]
      have : i ≠ 0 := by omega
      simp only [upd, this, if_false]
      exact hz i hi

/-- Mount of a volume of zeros. -/
theorem mount_zeros (n : Nat) (d : DS) (w0 w : World) (z : Int) (h : FoundD w0 w n d z) (ht : Tab w) (hn : 16 ≤ n) (hb0 : d.B 0 = headB 1 0 n) (hz : ∀ i, 0 < i → i < n → d.B i = zeroB) :
    Calls Tryz.prog 14 #[dp d.a] w fun e w' => ∃ v f, e = .returned (.tuple #[dp v, .int .i64 0]) ∧ Mounted w w' v d 0 1 f [] := by
  have hn' := h.eqn
  have := mount_ok [] 1 0 d w h.dev ht (by omega) h.dead h.D (by rw [hb0, hn']) (by omega) (by omega) (by
    refine ⟨by unfold nbOf; omega, fun hlt => ?_⟩
    rw [hz _ (by omega) (by omega)]
    exact oldB_zero _)
  exact this

end Go.Proofs.YtcchhalmlkdepaaGreatDoor
