/-
  Volume of the law of package bcache.
-/
import Derived.Test.YtphedokdckoccaaGreatDoorHab
import Derived.BigRegion
import Derived.Test.YtphedokdckoccaaGreatDoorHc
import Derived.Shelf.SlIterI.Nil
import Derived.Ground.GgzProg
import Derived.Test.YtphedokdckoccaaGreatDoorProg
import Derived.Test.YtphedokdckoccaaGreatDoorWhkeys
import Derived.Shelf.SlSortCmp.NoneTotal
import Derived.Ground.SlsfProg
import Derived.Deep.AppendLies
import Derived.Lib.SlBytesConst

/-
  Mount of a volume's device that was synced; Commit of too many puts, or of puts that may not be.
-/
namespace Go.Proofs.YtphedokdckoccaaGreatDoor
open Go.RowKit Go.Maps Go.Sort Go.Shelf

/-- A device with a whole log on it is mounted as the volume of that log. -/
theorem mount_log (s : VS) (d : DS) (w : World) (hl : Log s) (hd : Dev w d) (ht : Tab w) (hn16 : 16 ≤ d.n) (hn200 : d.n ≤ 200) (hn : d.n = s.d.n) (hB : d.B = s.d.B) (hD : d.D = .map []) (hfu : d.fused = false) (hc : s.commits < 1000000) (htu : s.turn < 1000000) :
    Calls Tryz.prog 19 #[dp d.a] w fun e w' => ∃ s', e = .returned (.tuple #[dp s'.v, .int .i64 0]) ∧ VI w' s' ∧ s'.d = d ∧ s'.commits = s.commits ∧ s'.turn = s.turn ∧ s'.nf = s.recs.flatten.length ∧ Below w.heap.size w w' ∧ w.heap.size ≤ s'.v ∧ w.heap.size ≤ s'.f ∧ ∀ i, s'.cont i = s.cont i := by
  have hlen := hl.len
  have hb0 : d.B 0 = headB s.turn (s.commits - s.recs.length) d.n := by rw [hB, hn]; exact hl.head
  have hlog : LogIs d.B d.n (nbOf d.n) s.turn (1 + nbOf d.n) s.recs := by rw [hB, hn]; exact hl.log
  refine (mount_ok s.recs s.turn (s.commits - s.recs.length) d w hd ht hn16 (by unfold DS.dead; rw [hfu]; rfl) hD hb0 (by omega) (by omega) hlog).mono ?_
  rintro e w' ⟨v, f, rfl, hM⟩
  obtain ⟨F, hF⟩ := hM.fr
  have hmlt := hd.mlt
  have hflt := hM.flt
  have ec : s.commits - s.recs.length + s.recs.length = s.commits := by omega
  have hv := hM.vol
  rw [ec] at hv
  refine ⟨⟨v, f, s.recs.flatten.length, s.commits, s.turn, d.n, F, laidOn (fun _ => none) s.recs.flatten, d, s.recs⟩, rfl, ⟨hv, hd.below hM.below, hF, ?_, hfu, hn16, hn200, ⟨rfl, ?_, hlen, hb0, hlog, .inl rfl, ?_, ?_⟩⟩, rfl, rfl, rfl, rfl, hM.below, hM.vlt, hM.flt, fun i => ?_⟩
  · show f ≠ d.m
    omega
  · intro i hi
    have := hl.nb i (by rw [← hn]; exact hi)
    rw [hl.fr] at this
    exact this
  · intro j hj hj'
    show OldB (s.turn + 1) (d.B j)
    rw [hB]
    exact hl.old j (by rw [← hn]; exact hj) (by rw [← hn]; exact hj')
  · intro j hj hj'
    show OldB s.turn (d.B j)
    rw [hB]
    exact hl.old2 j (by rw [← hn]; exact hj) (by rw [← hn]; exact hj')
  · show (laidOn (fun _ => none) s.recs.flatten i).getD (d.B (1 + i)) = (s.fr i).getD (s.d.B (1 + i))
    rw [hB, hl.fr]

set_option maxRecDepth 8000 in
set_option maxHeartbeats 1000000 in
/-- Commit of puts that may not be. -/
theorem vCommit_no (q : Option Addr) (pm : List PutM) (c : Nat) (s : VS) (w : World) (h : VI w s) (hps : PutsAt w q pm) (hq : pm.length = 0 → q = none ∧ c = 0) (hl : pm.length < 1000000) (htk : takesB (nbOf s.d.n) pm = false) :
    Calls Tryz.prog 54 #[dp s.v, .slice q pm.length c] w fun e w' => e = .returned (.int .i64 22) ∧ Below w.heap.size w w' := by
  have c46 := takes_any q pm c s.v s.commits s.turn s.next (some s.f) s.d.count s.d w h.vol h.dev h.n16 hps hq (by omega)
  rw [htk] at c46
  clear h hps
  go_enter Tryz.func54, Tryz.ntmps54
  go_wp2_with (go_at_call 103; refine c46.mono ?_; rintro e w1 ⟨rfl, hB1⟩; clear c46)
  go_ret
  exact ⟨rfl, hB1⟩

end Go.Proofs.YtphedokdckoccaaGreatDoor

/-
  is of the law: a volume is these blocks.
-/
namespace Go.Proofs.YtphedokdckoccaaGreatDoor
open Go.RowKit Go.Maps Go.Sort Go.Shelf

/-- A slice of blocks of bytes. -/
def RowsAt (w : World) (p : Option Addr) (n : Nat) (bs : Nat → By) : Prop :=
  0 < n → ∃ g o, p = some ⟨g, o, none⟩ ∧ (∃ cs fr, w.heap[g]? = some (.cells cs 55 fr)) ∧ ∀ i, i < n → ∃ gi oi ci, w.cell? ⟨g, o + i, none⟩ = some (.slice (some ⟨gi, oi, none⟩) 512 ci) ∧ Bytes w (some ⟨gi, oi, none⟩) (bs i) ∧ (bs i).length = 512 ∧ ∃ cs fr, w.heap[gi]? = some (.cells cs 5 fr)

theorem RowsAt.but {w w' : World} {p : Option Addr} {n : Nat} {bs : Nat → By} (h : RowsAt w p n bs) {S : Nat → Prop} (hb : But S w w') (hS : ∀ k cs t fr, w.heap[k]? = some (.cells cs t fr) → t = 5 ∨ t = 55 → ¬ S k) : RowsAt w' p n bs := by
  intro hn
  obtain ⟨g, o, e, ⟨cs, fr, hg⟩, hrow⟩ := h hn
  have key : ∀ (k : Nat) cs t fr, w.heap[k]? = some (.cells cs t fr) → t = 5 ∨ t = 55 → w'.heap[k]? = w.heap[k]? := fun k cs t fr hk ht => hb.block k (Array.getElem?_eq_some_iff.1 hk).1 (hS k cs t fr hk ht)
  have kg := key g cs _ fr hg (.inr rfl)
  refine ⟨g, o, e, ⟨cs, fr, kg.trans hg⟩, fun i hi => ?_⟩
  obtain ⟨gi, oi, ci, hc, hbi, hl, cs', fr', hgi⟩ := hrow i hi
  have ki := key gi cs' _ fr' hgi (.inl rfl)
  refine ⟨gi, oi, ci, (World.cell?_of_block (w := w) kg).trans hc, fun hp => ?_, hl, cs', fr', ki.trans hgi⟩
  obtain ⟨b, o', e', hx⟩ := hbi hp
  cases e'
  exact ⟨gi, oi, rfl, fun j x hj => (World.cell?_of_block (w := w) ki).trans (hx j x hj)⟩
theorem RowsAt.below {w w' : World} {p : Option Addr} {n : Nat} {bs : Nat → By} (h : RowsAt w p n bs) (hb : Below w.heap.size w w') : RowsAt w' p n bs :=
  h.but (S := fun _ => False) (But.of_below hb) (fun _ _ _ _ _ _ h => h)

set_option maxRecDepth 8000 in
set_option maxHeartbeats 4000000 in
theorem is_any (s : VS) (p : Option Addr) (nb c : Nat) (bs : Nat → By) (w : World) (h : VI w s) (hnb : nb = nbOf s.d.n) (hR : RowsAt w p nb bs) (heq : ∀ i, i < nb → s.cont i = bs i) :
    Calls Tryz.prog 15 #[dp s.v, .slice p nb c] w fun e w' => e = .returned (.bool true) ∧ Below w.heap.size w w' := by
  have hn200 := h.n200
  have hnb48 : nb ≤ 48 := by rw [hnb]; unfold nbOf; omega
  have hnb1 : 1 ≤ nb := by have := h.n16; rw [hnb]; unfold nbOf; omega
  have c9 := vBlocks s.v s.commits s.turn s.next (some s.f) s.d.count s.d w h.vol h.dev h.n16
  rw [← hnb] at c9
  obtain ⟨g0, o0, rfl, hg0, hrow⟩ := hR hnb1
  have H0 : Hid (VI w s ∧ nb = nbOf s.d.n ∧ (∀ i, i < nb → s.cont i = bs i) ∧ ∀ i, i < nb → ∃ gi oi ci, w.cell? ⟨g0, o0 + i, none⟩ = some (.slice (some ⟨gi, oi, none⟩) 512 ci) ∧ Bytes w (some ⟨gi, oi, none⟩) (bs i) ∧ (bs i).length = 512 ∧ ∃ cs fr, w.heap[gi]? = some (.cells cs 5 fr)) := ⟨h, hnb, heq, hrow⟩
  clear h hnb hR heq hrow hg0
  go_enter Tryz.func15, Tryz.ntmps15
  go_wp2_with (go_at_call 55; refine Calls_on c9 ?_)
  go_loopw [5] (fun ii wr => ∃ i : Nat, i ≤ nb ∧ ii = .int .i64 i ∧ Hid (Below w.heap.size w wr)) (fun ii _ => nb - (intOf ii).toNat)
  case atStart => exact ⟨0, Nat.zero_le _, rfl, Below.refl _ _⟩
  case round =>
    obtain ⟨i, hi, rfl, HB⟩ := hrel
    by_cases hlt : i < nb
    · have hltI : (i : Int) < nb := by omega
      have cR := vRead_any i s wr (H0.out.1.below HB.out) (by rw [← H0.out.2.1]; exact hlt)
      go_wp2_with (go_at_call 38; refine cR.mono ?_; rintro e w1 ⟨g, cp, rfl, hl, hb, hB1⟩; clear cR; refine Stop.out ?_)
      refine Stop.mk ?_
      obtain ⟨gi, oi, ci, hc, hbi, hli, _⟩ := H0.out.2.2.2 i hlt
      have hBw : Below w.heap.size w w1 := HB.out.trans (hB1.mono HB.out.size)
      have y : w1.drew.cell? ⟨g0, o0 + i, none⟩ = some (.slice (some ⟨gi, oi, none⟩) 512 ci) := (hBw.cell (p := ⟨g0, o0 + i, none⟩) (World.block_lt_of_cell? w _ hc)).trans hc
      have r1 := run_str w1.drew (some ⟨g, 0, none⟩) (s.cont i) cp hb
      have r2 := run_str w1.drew (some ⟨gi, oi, none⟩) (bs i) ci (below_bytes hBw hbi)
      rw [hl] at r1
      rw [hli, ← H0.out.2.2.1 i hlt] at r2
      have HBw : Hid (Below w.heap.size w w1.drew) := hBw.drew
      generalize strOf (s.cont i) = sz at *
      clear hl hb hB1 hc hbi hli hBw
      go_wp2_with fail
      go_region
      all_goals go_wp2
      all_goals go_roundw
      all_goals first | exact ⟨i + 1, by omega, by go_num, HBw⟩ | (simp [intOf]; omega)
    · obtain rfl : i = nb := by omega
      have hI := H0.out.1.below HB.out
      have cN := vRead_no (i : Int) s.v s.commits s.turn s.next (some s.f) s.d.count s.d wr hI.vol hI.dev hI.n16 (by rw [← H0.out.2.1]; omega)
      clear hI
      go_wp2_with (go_at_call 38; refine Calls_on cN ?_)
      go_ret
      exact ⟨rfl, HB.out⟩

end Go.Proofs.YtphedokdckoccaaGreatDoor

/-
  Size and now of the law.
-/
namespace Go.Proofs.YtphedokdckoccaaGreatDoor
open Go.RowKit Go.Maps Go.Sort Go.Shelf

set_option maxRecDepth 8000 in
set_option maxHeartbeats 400000 in
theorem size_any (n : Int) (w : World) (h1 : -9223372036854775808 ≤ n) (h2 : n < 9223372036854775808) :
    Calls Tryz.prog 13 #[.int .i64 n] w fun e w' => ∃ k : Nat, e = .returned (.int .i64 k) ∧ 16 ≤ k ∧ k ≤ 135 ∧ w' = w := by
  by_cases hn : n < 0
  · have e1 : 0 ≤ -(n + 1) := by omega
    have e2 : -(n + 1) ≤ 9223372036854775807 := by omega
    obtain ⟨r, hr⟩ : ∃ r : Nat, (r : Int) = -(n + 1) := ⟨(-(n + 1)).toNat, by omega⟩
    have hn' : n = -(r : Int) - 1 := by omega
    subst hn'
    have e3 : -(-(r : Int) - 1 + 1) = (r : Int) := by omega
    clear e1 hr h2
    go_enter Tryz.func13, Tryz.ntmps13
    go_wp2
    go_ret
    exact ⟨16 + r % 120, by simp, by omega, by omega, rfl⟩
  · obtain ⟨r, rfl⟩ := Int.eq_ofNat_of_zero_le (show 0 ≤ n by omega)
    go_enter Tryz.func13, Tryz.ntmps13
    go_wp2
    go_ret
    exact ⟨16 + r % 120, by simp, by omega, by omega, rfl⟩

set_option maxRecDepth 8000 in
set_option maxHeartbeats 400000 in
theorem now_any (mB g k c : Nat) (p : Option Addr) (nb cc : Nat) (w : World) (h0 : w.cell? ⟨mB, 0, none⟩ = some (.slice (some ⟨g, 0, none⟩) (k + 1) c)) (h1 : w.cell? ⟨g, k, none⟩ = some (.slice p nb cc)) (hk : k < 1000000) :
    Calls Tryz.prog 16 #[dp mB] w fun e w' => e = .returned (.slice p nb cc) ∧ ∃ j, w' = w.drewN j := by
  go_enter Tryz.func16, Tryz.ntmps16
  go_wp2_with fail
  go_quiet (fail)
  go_wp2
  go_ret
  exact ⟨rfl, _, rfl⟩

end Go.Proofs.YtphedokdckoccaaGreatDoor

/-
  fresh of the law: a device with a volume of zeros, and its model.
-/
namespace Go.Proofs.YtphedokdckoccaaGreatDoor
open Go.RowKit Go.Maps Go.Sort Go.Shelf

theorem Tryz.info55 : (Tryz.prog.info? 55).map (fun i => (i.zero, i.size, i.bytes)) = some (some (.slice none 0 0), 1, 24) := by kernel_rfl

/-- Rows of zeros, each in a block of its own, in a slice that the call has made. -/
structure ROwn (W : World) (base : Nat) (v : Value) (gs : List Nat) : Prop where
  own : W.ownsRow base 55 1 v gs.length (gs.map fun g => Value.slice (some ⟨g, 0, none⟩) 512 512)
  blk : ∀ g ∈ gs, W.heap[g]? = some (.cells (zeroB.map u8v).toArray 5 (0, 0))

/-- The model's struct: the last of its rows. -/
structure ModelAt (W : World) (base mB k : Nat) (p : Option Addr) (nb c : Nat) : Prop where
  at_ : ∃ v y cs, W.heap[mB]? = some (.cells #[v, y] 40 (0, 0)) ∧ W.ownsRow base 35 1 v (k + 1) (cs ++ [.slice p nb c]) ∧ cs.length = k

theorem ROwn.rows {W : World} {base : Nat} {v : Value} {gs : List Nat} (h : ROwn W base v gs) (hp : 0 < gs.length) : ∃ p c, v = .slice p gs.length c ∧ RowsAt W p gs.length (fun _ => zeroB) := by
  rcases h.own.2 with ⟨e, h0⟩ | ⟨g, cap, cur, rfl, hg, hblk, hcap, _⟩
  · omega
  · refine ⟨_, cap, rfl, fun _ => ⟨g, 0, rfl, ⟨_, _, hblk⟩, fun i hi => ?_⟩⟩
    have hc := h.own.cellAt i (by simpa using hi)
    rw [List.getElem?_map, List.getElem?_eq_getElem hi] at hc
    have hb := h.blk gs[i] (List.getElem_mem hi)
    refine ⟨gs[i], 0, 512, ?_, bytes_block hb, zeroB_length, _, _, hb⟩
    rw [Nat.zero_add]
    simpa using hc

theorem own_belowT {W W' : World} {base : Nat} {e : TypeId} {size : Nat} {v : Value} {n : Nat} {xs : List Value} (h : W.ownsRow base e size v n xs) (hB : Below W.heap.size W W') : W'.ownsRow base e size v n xs := by
  refine ⟨h.1, ?_⟩
  rcases h.2 with h0 | ⟨g, cap, cur, hv, hg, hblk, r⟩
  · exact .inl h0
  · exact .inr ⟨g, cap, cur, hv, hg, (hB.block g (Array.getElem?_eq_some_iff.1 hblk).1).trans hblk, r⟩

theorem cell_ne_tag {W : World} {g g' : Nat} {cs cs' : Array Value} {t t' : TypeId} {fr fr' : Nat × Nat} (h : W.heap[g]? = some (.cells cs t fr)) (h' : W.heap[g']? = some (.cells cs' t' fr')) (ht : t ≠ t') : g ≠ g' := by
  rintro rfl
  rw [h] at h'
  simp only [Option.some.injEq, Obj.cells.injEq] at h'
  exact ht h'.2.1

/-- One row more. -/
theorem ROwn.snoc {W w1 W' : World} {base : Nat} {v v' : Value} {gs : List Nat} (h : ROwn W base v gs) (hb1 : Below W.heap.size W w1) (hz : w1.heap[W.heap.size]? = some (.cells (zeroB.map u8v).toArray 5 (0, 0)))
    (hown : W'.ownsRow base 55 1 v' (gs.length + 1) ((gs.map fun g => Value.slice (some ⟨g, 0, none⟩) 512 512) ++ [Value.slice (some ⟨W.heap.size, 0, none⟩) 512 512])) (hg : (w1.alloc (.cells #[Value.slice (some ⟨W.heap.size, 0, none⟩) 512 512] 55)).grownBy W' v.ownBlock) : ROwn W' base v' (gs ++ [W.heap.size]) := by
  refine ⟨by simpa using hown, fun g hgm => ?_⟩
  have keep : ∀ g : Nat, w1.heap[g]? = some (Obj.cells (zeroB.map u8v).toArray 5 (0, 0)) → W'.heap[g]? = some (Obj.cells (zeroB.map u8v).toArray 5 (0, 0)) := by
    intro g hx
    have hlt := (Array.getElem?_eq_some_iff.1 hx).1
    refine (hg.block g (by simp; omega) (fun e => ?_)).trans ((Below.heap_alloc _ _ g hlt).trans hx)
    rcases h.own.2 with ⟨rfl, _⟩ | ⟨g0, cap, cur, rfl, _, hblk, _⟩
    · simp [Value.ownBlock] at e
    · have e' : g = g0 := by simpa [Value.ownBlock] using e
      exact cell_ne_tag hx (below_block hblk hb1) (by decide) e'
  rcases List.mem_append.1 hgm with hm | hm
  · exact keep g (below_block (h.blk g hm) hb1)
  · rw [List.mem_singleton.1 hm]; exact keep _ hz

/-- A volume of zeros that is just mounted. -/
theorem zero_log (v f nf n : Nat) (F : DataW Value) (d : DS) (hn : d.n = n) (h16 : 16 ≤ n) (hb0 : d.B 0 = headB 1 0 n) (hz : ∀ i, 0 < i → i < n → d.B i = zeroB) : Log ⟨v, f, nf, 0, 1, d.n, F, fun _ => none, d, []⟩ := by
  have hle : 1 + nbOf d.n ≤ d.n := by unfold nbOf; omega
  refine ⟨rfl, fun _ _ => rfl, Nat.le_refl _, by rw [hn]; exact hb0, ⟨hle, fun hlt => ?_⟩, .inl rfl, fun j hj hj' => ?_, fun j hj hj' => ?_⟩
  · show OldB 1 (d.B (1 + nbOf d.n))
    rw [hz _ (by omega) (by have : 1 + nbOf d.n < d.n := hlt; omega)]; exact oldB_zero _
  · show OldB 2 (d.B j)
    have h1 : 1 + nbOf d.n ≤ j := hj
    have h2 : j < d.n := hj'
    rw [hz j (by omega) (by omega)]; exact oldB_zero _
  · show OldB 1 (d.B j)
    have h1 : 1 + nbOf d.n ≤ j := hj
    have h2 : j < d.n := hj'
    rw [hz j (by omega) (by omega)]; exact oldB_zero _

/-- What fresh gives. -/
structure Frs (w w' : World) (n : Nat) (s : VS) (mB : Nat) (p : Option Addr) (c : Nat) : Prop where
  vi : VI w' s
  bud : Bud s 1
  eqn : s.d.n = n
  D : s.d.D = .map []
  commits : s.commits = 0
  cont : ∀ i, i < nbOf n → s.cont i = zeroB
  model : ModelAt w' w.heap.size mB 0 p (nbOf n) c
  rows : RowsAt w' p (nbOf n) (fun _ => zeroB)
  below : Below w.heap.size w w'
  new : ∀ k, (s.mine k ∨ k = mB) → w.heap.size ≤ k

set_option maxRecDepth 8000 in
set_option maxHeartbeats 4000000 in
theorem fresh_any (n : Nat) (w : World) (ht : Tab w) (h16 : 16 ≤ n) (h200 : n ≤ 200) :
    Calls Tryz.prog 12 #[.int .i64 n] w fun e w' => ∃ s mB, e = .returned (.tuple #[dp s.d.a, dp s.v, dp mB]) ∧ ∃ p c, Frs w w' n s mB p c := by
  have c21 := dev_new n w (by omega) (by omega)
  obtain ⟨nb, hnb⟩ : ∃ nb, nb = nbOf n := ⟨_, rfl⟩
  have e1 : ((n : Int) - 8) / 4 = (nb : Int) := by rw [hnb]; unfold nbOf; omega
  have e2 : Int.tdiv ((n : Int) - 8) 4 = (nb : Int) := by rw [Int.tdiv_eq_ediv_of_nonneg (by omega)]; exact e1
  have hnb1 : 1 ≤ nb := by rw [hnb]; unfold nbOf; omega
  have hnb48 : nb ≤ 48 := by rw [hnb]; unfold nbOf; omega
  have HT : Hid (Tab w ∧ nb = nbOf n) := ⟨ht, hnb⟩
  clear ht hnb
  obtain ⟨i0, hi0, hz0, hz1, hz2⟩ := info_parts Tryz.info5
  obtain ⟨j0, hj0, hy0, hy1, hy2⟩ := info_parts Tryz.info55
  go_enter Tryz.func12, Tryz.ntmps12
  go_wp2_with (go_at_call 52; refine c21.mono ?_; rintro e w1 ⟨a, s0, c0, m0, rfl, hd1, hB1, ha1, hs1, hm1⟩; clear c21; refine Stop.out ?_)
  refine Stop.mk ?_
  have ht1 : Tab w1 := below_tab hB1 HT.out.1.lt HT.out.1
  have cF := format_ok (newDS a s0 c0 m0 n) w1 hd1 ht1 h16 (fun i _ => rfl) (fun h => by cases h) (by simp [newDS])
  have H1 : Hid (Dev w1 (newDS a s0 c0 m0 n) ∧ Tab w1 ∧ Below w.heap.size w w1 ∧ ∀ k, (newDS a s0 c0 m0 n).mine k → w.heap.size ≤ k) := ⟨hd1, ht1, hB1, by rintro k (rfl | rfl | rfl); exact ha1; exact hs1; exact hm1⟩
  clear hd1 hB1 ha1 hs1 hm1 ht1
  go_wp2_with (go_at_call 53; refine cF.mono ?_; rintro e w2 ⟨d2, rfl, hb2, hn2, hd2, hdn2, hD2, hB2, hcn2, hfu2⟩; clear cF; refine Stop.out ?_)
  refine Stop.mk ?_
  obtain ⟨hd1, ht1, hB1, lo1⟩ := H1.out
  have ht2 : Tab w2 := hb2.tab ht1 (hd1.noTab ht1)
  have ea2 : d2.a = a := hn2.a
  have en2 : d2.n = n := hdn2
  have hb0 : d2.B 0 = headB 1 0 n := by rw [hB2]; simp [upd, newDS]
  have hzz : ∀ i, 0 < i → i < n → d2.B i = zeroB := fun i h0 _ => by
    rw [hB2]
    have : i ≠ 0 := by omega
    simp [upd, this, newDS]
  have cM := mount_ok [] 1 0 d2 w2 hd2 ht2 (by omega) (by unfold DS.dead; rw [show d2.fused = false from hfu2]; rfl) hD2 (by rw [hb0, en2]) (by omega) (by omega) (by
    refine ⟨by unfold nbOf; omega, fun hlt => ?_⟩
    rw [hzz _ (by omega) (by omega)]
    exact oldB_zero _)
  rw [ea2] at cM
  have B2 : Below w.heap.size w w2 := hB1.trans (hb2.below hB1.size lo1)
  have lo2 : ∀ k, d2.mine k → w.heap.size ≤ k := by
    rintro k (e | e | e)
    · exact lo1 k (.inl (e.trans hn2.a))
    · exact lo1 k (.inr (.inl (e.trans hn2.s)))
    · rcases hn2.m with x | x
      · exact lo1 k (.inr (.inr (e.trans x)))
      · have := hB1.size; omega
  have H2 : Hid (Dev w2 d2 ∧ Below w.heap.size w w2 ∧ (∀ k, d2.mine k → w.heap.size ≤ k) ∧ d2.B 0 = headB 1 0 n ∧ (∀ i, 0 < i → i < n → d2.B i = zeroB) ∧ d2.D = .map [] ∧ d2.count = 4 ∧ d2.fused = false) := ⟨hd2, B2, lo2, hb0, hzz, hD2, hcn2, hfu2⟩
  clear hd1 ht1 hB1 lo1 ht2 hb0 hzz B2 lo2 hd2 hb2 hn2 hD2 hB2 hcn2 hfu2 H1 hdn2
  go_wp2_with (go_at_call 19; refine cM.mono ?_; rintro e w3 ⟨v, f, rfl, hM⟩; clear cM)
  have HM : Hid (Mounted w2 w3 v d2 (0 + ([] : List Rec).length) 1 f []) := hM
  clear hM
  go_loopw [9, 10] (fun mv ii wr => ∃ gs : List Nat, gs.length ≤ nb ∧ ii = .int .i64 gs.length ∧ Hid (ROwn wr w3.heap.size mv gs ∧ Below w3.heap.size w3 wr)) (fun _ ii _ => nb - (intOf ii).toNat)
  case atStart => exact ⟨[], Nat.zero_le _, rfl, ⟨World.ownsRow_nil _ _ _ _, fun g hg => by cases hg⟩, Below.refl _ _⟩
  case round =>
    obtain ⟨gs, hgl, rfl, HI⟩ := hrel
    obtain ⟨p0, l0, c0, hv⟩ : ∃ p l c, u9 = Value.slice p l c := by
      rcases HI.out.1.own.2 with ⟨e, _⟩ | ⟨g, cap, cur, e, _⟩ <;> exact ⟨_, _, _, e⟩
    subst hv
    by_cases hlt : gs.length < nb
    · have hltI : (gs.length : Int) < nb := by omega
      go_wp2_with (first
        | (at_make; refine wpList_make_full _ rfl _ _ 55 rfl 0 5 i0 (.int .u8 0) 1 Tryz.underlying55 hi0 hz0 hz1 .i64 .i64 _ _ 512 rfl rfl rfl rfl (by rw [hz2]; omega) (by unfold maxLen; omega) (Nat.zero_le _) ?_; intro w4 hrow4 hg4; have hz4 : Hid (w4.heap[wr.heap.size]? = some (.cells (zeroB.map u8v).toArray 5 (0, 0))) := (by { have := made_zeros hrow4; rw [← zeros_bytes] at this; exact this }); have HB4 : Hid (Below wr.heap.size wr w4) := (Below.refl _ wr).grown hg4 (Nat.le_refl _) (by simp); clear hrow4 hg4; refine Stop.out ?_))
      refine Stop.mk ?_
      go_wp2_with (at_builtin; refine Stop.out ?_)
      refine Stop.mk ?_
      refine wpList_append_own_at _ rfl _ _ 35 rfl w3.heap.size 55 j0 (.slice none 0 0) 1 24 Tryz.underlying35 hj0 hy0 hy1 hy2 rfl (by decide) (.slice p0 l0 c0) gs.length (gs.map fun g => Value.slice (some ⟨g, 0, none⟩) 512 512) rfl (own_belowT (own_belowT HI.out.1.own HB4.out) ((Below.refl _ w4).alloc (Nat.le_refl _) _)) ⟨w4.heap.size, 0, none⟩ 1 1 [Value.slice (some ⟨wr.heap.size, 0, none⟩) 512 512] rfl rfl (cell_one_new _ _ _) (by intro u hu; rw [List.mem_singleton.1 hu]; rfl) (by unfold maxLen; omega) (by omega) (by have h1 := HI.out.2.size; have h2 := HB4.out.size; simp; omega) ?_
      intro v5 w5 hown5 hg5 _ _
      have hB4 := HB4.out
      have H5 : Hid (ROwn w5 w3.heap.size v5 (gs ++ [wr.heap.size]) ∧ Below w3.heap.size w3 w5) := by
        refine ⟨HI.out.1.snoc hB4 hz4.out hown5 hg5, ?_⟩
        have b4 : Below w3.heap.size w3 w4 := HI.out.2.trans (hB4.mono HI.out.2.size)
        refine (b4.alloc b4.size _).grown hg5 (by have := b4.size; simp; omega) (fun b e => ?_)
        rcases HI.out.1.own.2 with ⟨e', _⟩ | ⟨g, cap, cur, e', hg, _⟩
        · rw [e'] at e; simp [Value.ownBlock] at e
        · rw [e'] at e; simp [Value.ownBlock] at e; omega
      clear hown5 hg5 hB4 hz4 HB4
      go_wp2
      go_roundw
      case rel => exact ⟨gs ++ [wr.heap.size], by simp; omega, by simp, H5⟩
      case measure => simp [intOf]; omega
    · obtain h0 : gs.length = nb := by omega
      have hge : ¬ (gs.length : Int) < nb := by omega
      go_wp2
      go_ret3
      obtain ⟨hd2, B2, lo2, hb0, hzz, hD2, hcn2, hfu2⟩ := H2.out
      have hM := HM.out
      obtain ⟨F, hF⟩ := hM.fr
      obtain ⟨hown, hB⟩ := HI.out
      obtain ⟨p, c, ev, hrows⟩ := hown.rows (by omega)
      cases ev
      have enb : gs.length = nbOf n := h0.trans HT.out.2
      have B3 : Below w.heap.size w w3 := B2.trans (hM.below.mono B2.size)
      have Br : Below w.heap.size w wr := B3.trans (hB.mono B3.size)
      obtain ⟨wA, hwA⟩ : ∃ wA, wA = wr.alloc (.cells #[Value.slice p0 gs.length c0] 35) := ⟨_, rfl⟩
      have hBA : Below wr.heap.size wr wA := by rw [hwA]; exact (Below.refl _ wr).alloc (Nat.le_refl _) _
      have hsA : wA.heap.size = wr.heap.size + 1 := by rw [hwA]; simp
      have hgA : wA.heap[wr.heap.size]? = some (.cells #[Value.slice p0 gs.length c0] 35 (0, 0)) := by rw [hwA]; exact heap_alloc_new wr _
      rw [← hwA]
      obtain ⟨wB, hwB⟩ : ∃ wB, wB = wA.alloc (.cells #[Value.slice (some ⟨wr.heap.size, 0, none⟩) 1 1, Value.int .i64 0] 40) := ⟨_, rfl⟩
      have hBB : Below wA.heap.size wA wB := by rw [hwB]; exact (Below.refl _ wA).alloc (Nat.le_refl _) _
      have hgB : wB.heap[wr.heap.size + 1]? = some (.cells #[Value.slice (some ⟨wr.heap.size, 0, none⟩) 1 1, Value.int .i64 0] 40 (0, 0)) := by rw [hwB, ← hsA]; exact heap_alloc_new wA _
      rw [← hwB]
      clear hwA hwB
      have hAB : Below wr.heap.size wr wB := hBA.trans (hBB.mono hBA.size)
      have h3B : Below w3.heap.size w3 wB := hB.trans (hAB.mono hB.size)
      have hfm : f ≠ d2.m := by have h1 := hM.flt; have h2 := hd2.mlt; omega
      have hvlt := hM.vlt
      have hflt := hM.flt
      have hs2 := B2.size
      have hs3 := hM.below.size
      have hsr := hB.size
      refine ⟨⟨v, f, 0, 0, 1, d2.n, F, fun _ => none, d2, []⟩, wr.heap.size + 1, ?_, p0, c0, ⟨⟨hM.vol.below h3B, (hd2.below hM.below).below h3B, hF.below h3B, hfm, hfu2, by rw [en2]; exact h16, by rw [en2]; exact h200, zero_log v f 0 n F d2 en2 h16 hb0 hzz⟩, ⟨Nat.zero_le _, ?_, Nat.zero_le _, Nat.le_succ 1⟩, en2, hD2, rfl, fun i hi => ?_, ⟨_, _, [], hgB, ?_, rfl⟩, ?_, ?_, ?_⟩⟩
      · show _ = Ending.returned (.tuple #[dp d2.a, dp v, dp (wr.heap.size + 1)])
        rw [ea2]
        rfl
      · show d2.count ≤ 1 * 1000
        omega
      · show d2.B (1 + i) = zeroB
        exact hzz _ (by omega) (by unfold nbOf at hi; omega)
      · refine ⟨rfl, .inr ⟨wr.heap.size, 1, #[Value.slice p0 gs.length c0], rfl, by omega, below_block hgA hBB, ?_⟩⟩
        rw [enb]
        simp [maxLen]
      · rw [← enb]
        exact hrows.below hAB
      · exact Br.trans (hAB.mono Br.size)
      · rintro k ((e | e | hm) | e)
        · have e' : k = v := e
          omega
        · have e' : k = f := e
          omega
        · exact lo2 k hm
        · omega

end Go.Proofs.YtphedokdckoccaaGreatDoor

/-
  What WalWhole lays in memory: a block of bytes over and over; a row of puts.
-/
namespace Go.Proofs.YtphedokdckoccaaGreatDoor
open Go.RowKit Go.Maps Go.Sort Go.Shelf

/-- n bytes of some bytes, over and over. -/
def fullB (bs : By) (n : Nat) : By := (List.range n).map fun i => (bs[i % bs.length]?).getD 0
theorem fullB_length (bs : By) (n : Nat) : (fullB bs n).length = n := by simp [fullB]

theorem full_bytes (bs : By) (bp : Option Addr) (bc n : Nat) (w : World) (hn : n ≤ 70000) (hbl : bs.length < 9223372036854775808) (hb : Bytes w bp bs) :
    Calls Tryz.prog 30 #[.slice bp bs.length bc, .int .i64 n] w fun e w' => e = .returned (.slice (some ⟨w.heap.size, 0, none⟩) n n) ∧
      w'.heap[w.heap.size]? = some (.cells ((fullB bs n).map u8v).toArray 5 (0, 0)) ∧ Below w.heap.size w w' := by
  have hl : (bs.map fun b => (b.toNat : Int)).length = bs.length := by simp
  have := full_any (bs.map fun b => (b.toNat : Int)) bp bc n w hn (by rw [hl]; exact hbl) (fun hp => by
    rw [hl] at hp
    obtain ⟨bb, bo, e, hx⟩ := hb hp
    refine ⟨bb, bo, e, fun j x hj => ?_⟩
    rw [List.getElem?_map] at hj
    obtain ⟨y, hy, rfl⟩ := Option.map_eq_some_iff.1 hj
    exact hx j y hy)
  rw [hl] at this
  refine this.mono ?_
  rintro e w' ⟨rfl, h1, h2⟩
  refine ⟨rfl, ?_, h2⟩
  rw [h1]
  have : (full (bs.map fun b => (b.toNat : Int)) n).map u8 = (fullB bs n).map u8v := by
    unfold full fullB
    rw [List.map_map, List.map_map]
    refine List.map_congr_left (fun i _ => ?_)
    simp only [Function.comp, List.length_map, List.getElem?_map]
    cases bs[i % bs.length]? with
    | none => rfl
    | some b => rfl
  rw [this]

/-- A row of puts that the call has made. -/
theorem puts_of_own {W : World} {base : Nat} {v : Value} {n : Nat} {f : Nat → PutM} (hown : W.ownsRow base 91 2 v n (((List.range n).map fun k => putCells (f k)).flatten)) (hn : 0 < n)
    (hd : ∀ k, k < n → (f k).bytes.length ≤ (f k).cap ∧ Bytes W (f k).at_ (f k).bytes ∧ ∀ b o, (f k).at_ = some ⟨b, o, none⟩ → ∃ cs fr, W.heap[b]? = some (.cells cs 5 fr)) :
    ∃ p c, v = .slice p n c ∧ PutsAt W p ((List.range n).map f) := by
  rcases hown.2 with ⟨e, h0⟩ | ⟨g, cap, cur, rfl, hg, hblk, hcap, _⟩
  · omega
  · have hget : ∀ j x, ((List.range n).map f)[j]? = some x → j < n ∧ x = f j := by
      intro j x hj
      have hlt := (List.getElem?_eq_some_iff.1 hj).1
      rw [List.length_map, List.length_range] at hlt
      rw [List.getElem?_map, List.getElem?_range hlt] at hj
      exact ⟨hlt, (Option.some.inj hj).symm⟩
    refine ⟨_, cap, rfl, fun _ => ⟨g, 0, rfl, ⟨_, _, hblk⟩, fun j x hj => ?_⟩, fun j x hj => ?_⟩
    · obtain ⟨hlt, rfl⟩ := hget j x hj
      have hll : (((List.range n).map fun k => putCells (f k)).flatten).length = n * 2 := hown.1
      have c0 := hown.cellAt (j * 2 + 0) (by omega)
      have c1 := hown.cellAt (j * 2 + 1) (by omega)
      rw [flat_get f n j hlt 0 (by omega)] at c0
      rw [flat_get f n j hlt 1 (by omega)] at c1
      refine ⟨?_, ?_⟩
      · rw [Nat.zero_add]; simpa [putCells] using c0
      · rw [Nat.zero_add]; simpa [putCells] using c1
    · obtain ⟨hlt, rfl⟩ := hget j x hj
      exact hd j hlt

end Go.Proofs.YtphedokdckoccaaGreatDoor

/-
  Put of package bcache.
-/
namespace Go.Proofs.YtphedokdckoccaaGreatDoor
open Go.RowKit Go.Maps Go.Sort Go.Shelf

/-- One more at the end of the row of what is dirty. -/
theorem cm_dirty {w w1 : World} {s : CS} {a : Nat} {p' : Option Addr} {cap' : Nat} {o : Obj} (h : CM w s)
    (hown : w1.ownsRow 0 116 1 (.slice p' (s.D.length + 1) cap') (s.D.length + 1) (s.D.map ep ++ [ep a])) (hg : (w.alloc o).grownBy w1 (Value.slice s.dq s.D.length s.dcap).ownBlock)
    (hpl : (Value.slice p' (s.D.length + 1) cap').ownBlock = (Value.slice s.dq s.D.length s.dcap).ownBlock ∨ (Value.slice p' (s.D.length + 1) cap').ownBlock = some (w.heap.size + 1)) :
    w1.heap[s.c]? = some (.cells (s.ck.cells (.slice s.ip s.I.length s.icap)) 115 (0, 0)) ∧ CM (w1.setCell ⟨s.c, 3, none⟩ (.slice p' (s.D.length + 1) cap')) { s with D := s.D ++ [a], dq := p', dcap := cap' } ∧ But (cMine w s.h) w (w1.setCell ⟨s.c, 3, none⟩ (.slice p' (s.D.length + 1) cap')) := by
  have hl : (s.D ++ [a]).length = s.D.length + 1 := by simp
  have row2 := own0_alloc h.row o
  have dqb : ∀ g, (Value.slice s.dq s.D.length s.dcap).ownBlock = some g → s.dq.map Addr.block = some g := fun g hg => by
    cases hq : s.dq with
    | none => rw [hq] at hg; simp [Value.ownBlock] at hg
    | some a' => rw [hq] at hg; simpa [Value.ownBlock] using hg
  have keep : ∀ (k : Nat) ob, w.heap[k]? = some ob → (∀ cs t fr, ob = .cells cs t fr → t = 116 → s.dq.map Addr.block ≠ some k) → (s.dq.map Addr.block = some k → ∃ cs t fr, ob = .cells cs t fr) → w1.heap[k]? = some ob := by
    intro k ob hk ht hcell
    have hk2 : (w.alloc o).heap[k]? = some ob := (Below.heap_alloc _ o k (Array.getElem?_eq_some_iff.1 hk).1).trans hk
    refine (hg.block k (Array.getElem?_eq_some_iff.1 hk2).1 (fun e => ?_)).trans hk2
    have e1 := dqb k e.symm
    obtain ⟨cs, t, fr, rfl⟩ := hcell e1
    exact ht cs t fr rfl (own_tagT row2 e.symm hk2) e1
  have keepC : ∀ (k : Nat) cs t, w.heap[k]? = some (.cells cs t (0, 0)) → t ≠ 116 → w1.heap[k]? = some (.cells cs t (0, 0)) := fun k cs t hk ht => keep k _ hk (fun _ _ _ e h2 => by cases e; exact absurd h2 ht) (fun _ => ⟨_, _, _, rfl⟩)
  have hc1 := keepC s.c _ _ h.hp.cell (by decide)
  have hne : ∀ {k : Nat} {cs : Array Value} {t : TypeId}, w1.heap[k]? = some (.cells cs t (0, 0)) → t ≠ 115 → k ≠ s.c := fun hk ht => apart_tags hk hc1 ht
  have setk : ∀ {k : Nat} {cs : Array Value} {t : TypeId}, w1.heap[k]? = some (.cells cs t (0, 0)) → t ≠ 115 → (w1.setCell ⟨s.c, 3, none⟩ (.slice p' (s.D.length + 1) cap')).heap[k]? = some (.cells cs t (0, 0)) := fun hk ht => (heap_setCell_other _ _ _ _ (hne hk ht)).trans hk
  have ent : ∀ {k : Nat} {e : EV} {x : Int}, IsEnt w k e x → IsEnt (w1.setCell ⟨s.c, 3, none⟩ (.slice p' (s.D.length + 1) cap')) k e x := fun hk => setk (keepC _ _ _ hk (by decide)) (by decide)
  have mC : cMine w s.h s.c := h.mineC
  refine ⟨hc1, ⟨⟨?_, ?_, fun k hk => ent (h.hp.ents k hk), h.hp.nodup, h.hp.len, h.hp.used⟩, fun k hk hi => ent (h.rest k hk hi), h.sub, ?_, ?_, fun k hk => ?_, h.lo.1, h.lo.2.1, h.lo.2.2.1, fun k hk => ?_⟩, ?_⟩
  · show (w1.setCell ⟨s.c, 3, none⟩ _).heap[s.c]? = _
    rw [heap_setCell_same _ s.c 3 _ _ _ hc1]
    unfold CS.ck CK.cells
    simp only [hl]
    rfl
  · refine ⟨h.hp.row.1, ?_⟩
    rcases h.hp.row.2 with h0 | ⟨g, cap, cur, hv, hb, hblk, r⟩
    · exact .inl h0
    · refine .inr ⟨g, cap, cur, hv, hb, setk (keep g _ hblk (fun _ _ _ _ _ e => ?_) (fun _ => ⟨_, _, _, rfl⟩)) (by decide), r⟩
      refine h.apart g e ?_
      have hv' : s.ip = some ⟨g, 0, none⟩ := by injection hv
      rw [hv']
      rfl
  · have hlt := h.hm.own.lt
    obtain ⟨es, clock, he, r⟩ := h.hm.own
    have hk1 : w1.heap[s.h]? = some (.map es clock) := keep s.h _ he (fun _ _ _ e _ => by cases e) (fun e => by
      obtain ⟨cs, hc⟩ := dq_tag h e
      rw [he] at hc; cases hc)
    refine ⟨⟨es, clock, (heap_setCell_other _ _ _ _ (fun e => ?_)).trans hk1, r⟩, h.hm.has, h.hm.val, h.hm.inj, h.hm.nodup, h.hm.small, h.hm.size⟩
    have e' : s.h = s.c := e
    exact h.hne h.hp.cell e'
  · rw [hl, List.map_append]
    exact own0_set hown hc1 (by decide) _ _
  · intro e
    obtain ⟨cs, hc⟩ := ip_tag h e
    have hklt := (Array.getElem?_eq_some_iff.1 hc).1
    have hk' : (Value.slice p' (s.D.length + 1) cap').ownBlock = some k := by
      have hk0 : p'.map Addr.block = some k := hk
      rcases hown.2 with ⟨e1, _⟩ | ⟨g, cap, cur, e1, _⟩
      · cases e1
      · cases e1; cases hk0; rfl
    rcases hpl with h1 | h1
    · rw [hk'] at h1
      exact h.apart k (dqb k h1.symm) e
    · rw [hk'] at h1
      have := Option.some.inj h1
      omega
  · have hk' : (Value.slice p' (s.D.length + 1) cap').ownBlock = some k := by
      have hk0 : p'.map Addr.block = some k := hk
      rcases hown.2 with ⟨e1, _⟩ | ⟨g, cap, cur, e1, _⟩
      · cases e1
      · cases e1; cases hk0; rfl
    rcases hpl with h1 | h1
    · rw [hk'] at h1
      exact h.lo.2.2.2 k (dqb k h1.symm)
    · rw [hk'] at h1
      have := Option.some.inj h1
      have := h.hm.own.lt
      show s.h < k
      omega
  · refine (((But.refl (cMine w s.h) w).alloc o).trans (But.of_grown hg fun k e => ?_)).setCell _ mC _
    obtain ⟨cs, hc⟩ := dq_tag h (dqb k e)
    exact .inr ⟨Nat.le_of_lt (h.lo.2.2.2 k (dqb k e)), _, _, _, hc, .inr (.inl rfl)⟩

/-- What Put's end needs: the entry's state with its new bytes, dirty. -/
def PutFin (w1 : World) (s1 : CS) (a : Nat) (vs : VS) (bs : By) (D' : CS → List Nat) (A2 : AC) : Prop :=
  ∀ w2 e dq dcap, e.block = (s1.U a).block → e.pins = (s1.U a).pins → e.used = (s1.U a).used → e.dirty = true → CM w2 { s1 with U := updU s1.U a e, D := D' s1, dq := dq, dcap := dcap } → But (cMine w1 s1.h) w1 w2 → DatAt w2 e bs →
    ∃ B', CX (fun k => k = a) w2 { s1 with U := updU s1.U a e, D := D' s1, dq := dq, dcap := dcap } vs B' ∧ acOf { s1 with U := updU s1.U a e, D := D' s1, dq := dq, dcap := dcap } B' = A2

theorem Tryz.infoPE : (Tryz.prog.info? 116).map (fun i => (i.zero, i.size, i.bytes)) = some (some (.pointer none), 1, 8) := by kernel_rfl

set_option maxRecDepth 8000 in
set_option maxHeartbeats 2000000 in
/-- Put of a block whose entry is not dirty. -/
theorem put_clean (s : CS) (vs : VS) (B : Nat → By) (block b : Nat) (q : Option Addr) (c : Nat) (bs : By) (A2 : AC) (w : World) (h : CI w s vs B) (hb : block < nbOf vs.d.n) (hbs : Bytes w q bs) (hbl : bs.length = 512) (hbz : b < 800000) (htag : ∀ g o, q = some ⟨g, o, none⟩ → ∃ cs fr, w.heap[g]? = some (.cells cs 5 fr))
    (cH : Calls Tryz.prog 78 #[ep s.c, .int .i64 (block : Nat)] w fun e w1 => ∃ a, e = .returned (.tuple #[ep a, .int .i64 0]) ∧ ∃ s1, Hid (CM w1 s1 ∧ s1.c = s.c ∧ s1.h = s.h ∧ a ∈ s1.A ∧ (s1.U a).block = block ∧ (s1.U a).dirty = false ∧ CB s1 (b + 1) ∧ s1.uses ≤ b ∧ s1.D.length < 100000 ∧ But (cMine w s.h) w w1 ∧ PutFin w1 s1 a vs bs (fun s => s.D ++ [a]) A2)) :
    Calls Tryz.prog 31 #[ep s.c, .int .i64 (block : Nat), .slice q 512 c] w fun e w' => e = .returned (.int .i64 0) ∧ ∃ s' B', Cst w w' s s' vs B' b ∧ acOf s' B' = A2.touch block id := by
  have hnb := h.nb
  have c0 : w.cell? ⟨s.c, 0, none⟩ = some (dp vs.v) := by rw [cellOf h.cm.hp.cell 0, ← h.vv]; rfl
  have cB := vBlocks vs.v vs.commits vs.turn vs.next (some vs.f) vs.d.count vs.d w h.vi.vol h.vi.dev h.vi.n16
  have i1 : ¬ ((block : Nat) : Int) < 0 := by omega
  have i2 : ¬ ((block : Nat) : Int) ≥ ((nbOf vs.d.n : Nat) : Int) := by omega
  obtain ⟨k0, hk0, hx0, hx1, hx2⟩ := info_parts Tryz.infoPE
  have hC5 : Hid (∀ k cs fr, w.heap[k]? = some (.cells cs 5 fr) → ¬ cMine w s.h k) := fun k cs fr hk => h.noMine.2 k cs 5 fr hk (.inl rfl)
  obtain ⟨gq, oq, hq, hqx⟩ := hbs (by omega)
  subst hq
  have htg := htag gq oq rfl
  have HB : Hid (Bytes w (some ⟨gq, oq, none⟩) bs ∧ ∃ cs fr, w.heap[gq]? = some (.cells cs 5 fr)) := ⟨hbs, htg⟩
  clear h hbs hqx htag htg
  go_enter Tryz.func31, Tryz.ntmps31
  go_wp2_with (first
    | (go_at_call 55; refine Calls_on cB ?_)
    | (go_at_call 78; refine cH.mono ?_; rintro e w1 ⟨a, rfl, s1, HQ⟩; clear cH; refine Stop.out ?_))
  refine Stop.mk ?_
  have hbs1 : Bytes w1 (some ⟨gq, oq, none⟩) bs := by
    obtain ⟨hb1, cs, fr, ht⟩ := HB.out
    have hk := HQ.out.2.2.2.2.2.2.2.2.2.1.block gq (Array.getElem?_eq_some_iff.1 ht).1 (hC5.out gq cs fr ht)
    intro hp
    obtain ⟨g', o', e, hx⟩ := hb1 hp
    cases e
    exact ⟨gq, oq, rfl, fun j x hj => (World.cell?_of_block (w := w) hk).trans (hx j x hj)⟩
  have cl := clone_bytes gq oq bs c w1 hbs1 (by omega) (by omega)
  rw [hbl] at cl
  clear hbs1
  go_wp2_with (go_at_call 74; refine cl.mono ?_; rintro e w2 ⟨g, cp, rfl, hg2, hcp2, hb2, hB2, ht2⟩; clear cl; refine Stop.out ?_)
  refine Stop.mk ?_
  obtain ⟨cm1, hc1, hh1, ha1, hblk1, hd1, hcb1, hus1, hDl1, hB1, hfin⟩ := HQ.out
  have cm2 := cm1.below hB2
  obtain ⟨x, hE⟩ := cm2.entAny ha1
  have d1 : w2.cell? ⟨a, 1, none⟩ = some (.slice (s1.U a).p (s1.U a).n (s1.U a).cp) := by rw [cellOf hE 1]; rfl
  have f1 := frozenOf hE 1
  have d3 : w2.cell? ⟨a, 3, none⟩ = some (.bool false) := by rw [cellOf hE 3, ← hd1]; rfl
  have f3 := frozenOf hE 3
  have k3 : w2.cell? ⟨s.c, 3, none⟩ = some (.slice s1.dq s1.D.length s1.dcap) := by rw [← hc1, cellOf cm2.hp.cell 3]; rfl
  have ca : s.c ≠ a := by rw [← hc1]; exact apart_tags cm2.hp.cell hE (by decide)
  have ca' := Ne.symm ca
  have cm3 := cm2.setE ha1 1 (.slice (some ⟨g, 0, none⟩) 512 cp) { s1.U a with p := some ⟨g, 0, none⟩, n := 512, cp := cp } (fun _ => rfl) rfl (cm2.hp.used a)
  have cm4 := cm3.setE (a := a) ha1 3 (.bool true) { s1.U a with p := some ⟨g, 0, none⟩, n := 512, cp := cp, dirty := true } (fun x => by show (entCells (updU s1.U a _ a) x).setIfInBounds 3 _ = _; rw [updU_same]; rfl) (by show (s1.U a).block = (updU s1.U a _ a).block; rw [updU_same]) (cm2.hp.used a)
  have eU : updU (updU s1.U a { s1.U a with p := some ⟨g, 0, none⟩, n := 512, cp := cp }) a { s1.U a with p := some ⟨g, 0, none⟩, n := 512, cp := cp, dirty := true } = updU s1.U a { s1.U a with p := some ⟨g, 0, none⟩, n := 512, cp := cp, dirty := true } := by
    funext k; unfold updU; split <;> rfl
  have cm5 : CM ((w2.setCell ⟨a, 1, none⟩ (.slice (some ⟨g, 0, none⟩) 512 cp)).setCell ⟨a, 3, none⟩ (.bool true)) { s1 with U := updU s1.U a { s1.U a with p := some ⟨g, 0, none⟩, n := 512, cp := cp, dirty := true } } := by rw [← eU]; exact cm4
  have mE : cMine w2 s1.h a := cm2.mineE ha1
  have hB5 : But (cMine w1 s1.h) w1 ((w2.setCell ⟨a, 1, none⟩ (.slice (some ⟨g, 0, none⟩) 512 cp)).setCell ⟨a, 3, none⟩ (.bool true)) := cMine_trans (But.of_below hB2) (((But.refl (cMine w2 s1.h) w2).setCell _ mE _).setCell _ mE _)
  have H5 : Hid (CM ((w2.setCell ⟨a, 1, none⟩ (.slice (some ⟨g, 0, none⟩) 512 cp)).setCell ⟨a, 3, none⟩ (.bool true)) { s1 with U := updU s1.U a { s1.U a with p := some ⟨g, 0, none⟩, n := 512, cp := cp, dirty := true } } ∧ But (cMine w1 s1.h) w1 ((w2.setCell ⟨a, 1, none⟩ (.slice (some ⟨g, 0, none⟩) 512 cp)).setCell ⟨a, 3, none⟩ (.bool true)) ∧ (512 ≤ cp ∧ Bytes w2 (some ⟨g, 0, none⟩) bs ∧ ∃ cs fr, w2.heap[g]? = some (.cells cs 5 fr))) := ⟨cm5, hB5, hcp2, hb2, ht2⟩
  have HMine : Hid (cMine w2 s1.h a) := mE
  have HNe : Hid (∀ (cs : Array Value) (t : TypeId) (fr : Nat × Nat), w2.heap[s1.h]? = some (.cells cs t fr) → False) := fun cs t fr hk => cm2.hne hk rfl
  clear cm1 cm2 cm3 cm4 cm5 eU hE mE hB5 hd1 hcb1 hfin hcp2 hb2 ht2 hg2 hB1 hB2 hh1 ha1 hus1 cB c0
  go_wp2_with (at_builtin; refine Stop.out ?_)
  refine Stop.mk ?_
  have hsz : ((w2.setCell ⟨a, 1, none⟩ (.slice (some ⟨g, 0, none⟩) 512 cp)).setCell ⟨a, 3, none⟩ (.bool true)).heap.size = w2.heap.size := by simp
  refine wpList_append_own_at _ rfl _ _ 112 rfl 0 116 k0 (.pointer none) 1 8 Tryz.underlying112 hk0 hx0 hx1 hx2 rfl (by decide) (.slice s1.dq s1.D.length s1.dcap) s1.D.length (s1.D.map ep) rfl (own0_alloc H5.out.1.row _) ⟨w2.heap.size, 0, none⟩ 1 1 [ep a] rfl rfl (by have := cell_one_laid ((w2.setCell ⟨a, 1, none⟩ (.slice (some ⟨g, 0, none⟩) 512 cp)).setCell ⟨a, 3, none⟩ (.bool true)) (ep a) 116; rw [hsz] at this; exact this) (by intro u hu; rw [List.mem_singleton.1 hu]; rfl) (by unfold maxLen; omega) (by omega) (Nat.zero_le _) ?_
  intro v5 w5 hown hg _ hpl
  obtain ⟨p', cap', rfl⟩ := own_slice hown
  have hpl' : (Value.slice p' (s1.D.length + 1) cap').ownBlock = (Value.slice s1.dq s1.D.length s1.dcap).ownBlock ∨ (Value.slice p' (s1.D.length + 1) cap').ownBlock = some (((w2.setCell ⟨a, 1, none⟩ (.slice (some ⟨g, 0, none⟩) 512 cp)).setCell ⟨a, 3, none⟩ (.bool true)).heap.size + 1) := by
    rw [World.size_alloc] at hpl
    exact hpl
  obtain ⟨hcc, cm6, hB6⟩ := cm_dirty (a := a) H5.out.1 hown hg hpl'
  rw [show (CS.c { s1 with U := updU s1.U a { s1.U a with p := some ⟨g, 0, none⟩, n := 512, cp := cp, dirty := true } }) = s1.c from rfl, hc1] at hcc
  have n3 : w5.cell? ⟨s.c, 3, none⟩ = some (.slice s1.dq s1.D.length s1.dcap) := by rw [cellOf hcc 3]; rfl
  have g3 := frozenOf hcc 3
  obtain ⟨cm1, _, hh1, ha1, _, hd1, hcb1, hus1, _, hB1, hfin⟩ := HQ.out
  have hBw : But (cMine w1 s1.h) w1 (w5.setCell ⟨s1.c, 3, none⟩ (.slice p' (s1.D.length + 1) cap')) := cMine_trans H5.out.2.1 hB6
  have hdat : DatAt (w5.setCell ⟨s1.c, 3, none⟩ (.slice p' (s1.D.length + 1) cap')) { s1.U a with p := some ⟨g, 0, none⟩, n := 512, cp := cp, dirty := true } bs := by
    obtain ⟨q1, q2, cs, fr, q3⟩ := H5.out.2.2
    have hw2 : But (fun k => cMine w2 s1.h k) w2 (w5.setCell ⟨s1.c, 3, none⟩ (.slice p' (s1.D.length + 1) cap')) := by
      have e1 : But (cMine w2 s1.h) w2 ((w2.setCell ⟨a, 1, none⟩ (.slice (some ⟨g, 0, none⟩) 512 cp)).setCell ⟨a, 3, none⟩ (.bool true)) := by
        have hE2 := H5.out.1.entAny ha1
        refine ((But.refl (cMine w2 s1.h) w2).setCell ⟨a, 1, none⟩ HMine.out _).setCell ⟨a, 3, none⟩ HMine.out _
      exact cMine_trans e1 hB6
    obtain ⟨k1, k2⟩ := bytes_but q2 ⟨cs, fr, q3⟩ hw2 (fun k cs fr hk hm => by
      rcases hm with rfl | ⟨_, cs', t', fr', hb, ht'⟩
      · exact HNe.out _ _ _ hk
      · rw [hk] at hb
        simp only [Option.some.injEq, Obj.cells.injEq] at hb
        obtain ⟨_, rfl, _⟩ := hb
        rcases ht' with h' | h' | h' <;> exact absurd h' (by decide))
    exact ⟨rfl, hbl, q1, g, rfl, k1, k2⟩
  obtain ⟨B', cx, hac⟩ := hfin _ { s1.U a with p := some ⟨g, 0, none⟩, n := 512, cp := cp, dirty := true } p' cap' rfl rfl rfl rfl cm6 hBw hdat
  have eW : w5.setCell ⟨s1.c, 3, none⟩ (.slice p' (s1.D.length + 1) cap') = w5.setCell ⟨s.c, 3, none⟩ (.slice p' (s1.D.length + 1) cap') := by rw [hc1]
  obtain ⟨S5, hS5⟩ : ∃ S5 : CS, S5 = { s1 with U := updU s1.U a { s1.U a with p := some ⟨g, 0, none⟩, n := 512, cp := cp, dirty := true }, D := s1.D ++ [a], dq := p', dcap := cap' } := ⟨_, rfl⟩
  have cx5 : CX (fun k => k = a) (w5.setCell ⟨s.c, 3, none⟩ (.slice p' (s1.D.length + 1) cap')) S5 vs B' := by rw [hS5, ← eW]; exact cx
  have hcb5 : CB S5 (b + 1) := by rw [hS5]; exact ⟨hcb1.nh, hcb1.uses, hcb1.met, hcb1.missed, hcb1.out⟩
  have ha5 : a ∈ S5.A := by rw [hS5]; exact ha1
  have hc5 : S5.c = s.c := by rw [hS5]; exact hc1
  have hh5 : S5.h = s1.h := by rw [hS5]
  have hu5 : S5.uses = s1.uses := by rw [hS5]
  have hac5 : acOf S5 B' = A2 := by rw [hS5]; exact hac
  have hb5 : (S5.U a).block = block := by
    rw [hS5]
    show (updU s1.U a _ a).block = block
    rw [updU_same]; exact hblk1
  have cU := use_cx cx5 ha5 hcb5 (by omega)
  rw [hc5] at cU
  rw [eW] at hBw
  have H6 : Hid (But (cMine w1 s1.h) w1 (w5.setCell ⟨s.c, 3, none⟩ (.slice p' (s1.D.length + 1) cap')) ∧ acOf S5 B' = A2 ∧ (S5.U a).block = block ∧ CB S5 (b + 1) ∧ S5.c = s.c ∧ S5.h = s1.h ∧ S5.uses ≤ b) := ⟨hBw, hac5, hb5, hcb5, hc5, hh5, by omega⟩
  clear eW hS5 cx5 hcb5 ha5 hc5 hh5 hu5 hac5 hb5
  clear hpl hpl' hcc cm6 hB6 cm1 hd1 hcb1 hus1 hB1 hfin hBw hdat cx hac hown hg H5 hh1 ha1 hsz
  go_wp2_with (go_at_call 73; refine cU.mono ?_; rintro e w6 ⟨rfl, s6, hI6, hU6, hac6⟩; clear cU)
  go_ret
  obtain ⟨cm1, _, hh1, ha1, _, hd1, hcb1, hus1, _, hB1, _⟩ := HQ.out
  obtain ⟨hBw, hac, hblkU, hcb5, hc5, hh5, hu5⟩ := H6.out
  obtain ⟨ip, icap, I', he6⟩ := hU6.eq
  have hB7 : But (cMine w s.h) w w6 := by
    refine cMine_trans hB1 ?_
    rw [← hh1]
    refine cMine_trans hBw ?_
    rw [← hh5]
    exact hU6.but
  refine ⟨rfl, s6, B', ⟨hI6, ?_, by rw [he6]; exact hc5, by rw [he6]; exact hh5.trans hh1, hB7⟩, ?_⟩
  · rw [he6]
    exact ⟨hcb5.nh, by show S5.uses + 1 ≤ _; omega, hcb5.met, hcb5.missed, hcb5.out⟩
  · rw [hac6, hac, hblkU]

end Go.Proofs.YtphedokdckoccaaGreatDoor

/-
  Put of package bcache, every way.
-/
namespace Go.Proofs.YtphedokdckoccaaGreatDoor
open Go.RowKit Go.Maps Go.Sort Go.Shelf

def putF (d : By) (x : HE) : HE := { x with dirty := true, data := d }
def AC.put (A : AC) (b : Nat) (d : By) : AC := AC.touch (if A.held b then A else A.evict.add b d) b (putF d)

theorem dlen {w : World} {s : CS} {vs : VS} {B : Nat → By} (h : CI w s vs B) : s.D.length ≤ 4096 := by
  have := len_sub h.dnd (fun a ha => ((h.dirty a).1 ha).1)
  have := h.room.2.1
  have := h.room.2.2
  omega

theorem put_held (s : CS) (vs : VS) (B : Nat → By) (a b : Nat) (q : Option Addr) (c : Nat) (bs : By) (w : World) (h : CI w s vs B) (hz : CB s b) (ha : a ∈ s.A) (hd : (s.U a).dirty = false) (hbs : Bytes w q bs) (hbl : bs.length = 512) (hbz : b < 800000) (htag : ∀ g o, q = some ⟨g, o, none⟩ → ∃ cs fr, w.heap[g]? = some (.cells cs 5 fr)) :
    Calls Tryz.prog 31 #[ep s.c, .int .i64 ((s.U a).block : Nat), .slice q 512 c] w fun e w' => e = .returned (.int .i64 0) ∧ ∃ s' B', Cst w w' s s' vs B' b ∧ acOf s' B' = (acOf s B).put (s.U a).block bs := by
  have hh : (acOf s B).held (s.U a).block = true := held_iff.2 ⟨a, ha, rfl⟩
  have hput : (acOf s B).put (s.U a).block bs = AC.touch { acOf s B with L := (acOf s B).L.map fun x => if x.block = (s.U a).block then putF bs x else x } (s.U a).block id := by
    unfold AC.put
    rw [hh, if_pos rfl, touch_two _ _ (putF bs) (fun x => ⟨rfl, fun _ => rfl⟩)]
  rw [hput]
  refine put_clean s vs B (s.U a).block b q c bs _ w h (h.blk a ha) hbs hbl hbz htag ?_
  refine (hold_yes s a w h.cm ha).mono ?_
  rintro e w1 ⟨rfl, rfl⟩
  have hdl := dlen h
  have := hz.uses
  refine ⟨a, rfl, s, h.cm, rfl, rfl, ha, rfl, hd, ⟨by have := hz.nh; omega, by omega, by have := hz.met; omega, by have := hz.missed; omega, by have := hz.out; omega⟩, by omega, by omega, But.refl _ _, ?_⟩
  intro w2 e dq dcap e1 e2 e3 e4 cm2 hB2 hdat
  refine ⟨_, cx_setE (h.weak a) e bs (s.D ++ [a]) dq dcap cm2 hB2 ha e1 hdat (.inr ⟨e4, hd, rfl⟩) (fun hx => by rw [e4] at hx; cases hx), ?_⟩
  have := touched_abs (B := B) h.cm ha e bs (putF bs) (by unfold putF heOf; simp [e1, e2, e3, e4])
  unfold acOf
  simp only
  rw [this]
  rfl

theorem evict_sub (A : AC) : ∀ x ∈ A.evict.L, x ∈ A.L := by
  intro x hx
  unfold AC.evict at hx
  split at hx
  · exact hx
  · split at hx
    · exact (List.mem_filter.1 hx).1
    · exact hx

theorem put_new (s : CS) (vs : VS) (B : Nat → By) (block b : Nat) (q : Option Addr) (c : Nat) (bs : By) (w : World) (h : CI w s vs B) (hz : CB s b) (hb : block < nbOf vs.d.n) (hh : (acOf s B).held block = false) (hf : (acOf s B).full = false) (hbs : Bytes w q bs) (hbl : bs.length = 512) (hbz : b < 800000) (htag : ∀ g o, q = some ⟨g, o, none⟩ → ∃ cs fr, w.heap[g]? = some (.cells cs 5 fr)) :
    Calls Tryz.prog 31 #[ep s.c, .int .i64 (block : Nat), .slice q 512 c] w fun e w' => e = .returned (.int .i64 0) ∧ ∃ s' B', Cst w w' s s' vs B' b ∧ acOf s' B' = (acOf s B).put block bs := by
  have hnb := h.nb
  have hput : (acOf s B).put block bs = AC.touch { (acOf s B).evict with L := (acOf s B).evict.L ++ [⟨block, 0, 0, true, bs⟩] } block id := by
    unfold AC.put
    rw [hh, if_neg (by simp), ← touch_two _ _ (putF bs) (fun x => ⟨rfl, fun _ => rfl⟩)]
    congr 1
    unfold AC.add
    simp only [List.map_append, List.map_cons, List.map_nil]
    congr 2
    refine (List.map_congr_left fun x hx => ?_).trans (List.map_id _)
    have hx' := evict_sub _ x hx
    have : x.block ≠ block := fun e => by
      have : (acOf s B).held block = true := by
        unfold AC.held
        rw [List.any_eq_true]
        exact ⟨x, hx', by simp [e]⟩
      rw [hh] at this; cases this
    rw [if_neg this]; rfl
  rw [hput]
  refine put_clean s vs B block b q c bs _ w h hb hbs hbl hbz htag ?_
  obtain ⟨z1, z2, z3, z4, z5⟩ := hz
  refine (bhold_any s block w h.cm (by omega) (held_not hh) h.room.2.1 (h.ord fun _ h => h) (by omega) (by omega) (not_full h hf)).mono ?_
  rintro e w1 ⟨a, A1, I1, out1, F, rfl, hH⟩
  have hdl := dlen h
  have hout : out1 ≤ b + 1 := by rcases hH.ev with ⟨_, _, _, rfl⟩ | ⟨_, o, _, _, _, _, rfl⟩ <;> omega
  have hUa : updU s.U a (newE block) a = newE block := updU_same _ _ _
  refine ⟨a, rfl, { s with nh := s.nh + 1, F := F, I := I1, A := A1 ++ [a], U := updU s.U a (newE block), out := out1 }, hH.cm, rfl, rfl, by simp, ?_, ?_, ⟨by show s.nh + 1 ≤ _; omega, by show s.uses ≤ _; omega, by show s.met ≤ _; omega, by show s.missed ≤ _; omega, hout⟩, z2, by show s.D.length < _; omega, hH.but, ?_⟩
  · show (updU s.U a (newE block) a).block = block
    rw [hUa]; rfl
  · show (updU s.U a (newE block) a).dirty = false
    rw [hUa]; rfl
  · intro w2 e dq dcap e1 e2 e3 e4 cm2 hB2 hdat
    have e1' : e.block = block := by have : e.block = (updU s.U a (newE block) a).block := e1; rw [hUa] at this; exact this
    have e2' : e.pins = 0 := by have : e.pins = (updU s.U a (newE block) a).pins := e2; rw [hUa] at this; exact this
    have e3' : e.used = 0 := by have : e.used = (updU s.U a (newE block) a).used := e3; rw [hUa] at this; exact this
    have eU : updU (updU s.U a (newE block)) a e = updU s.U a e := by funext k; unfold updU; split <;> rfl
    have cm3 : CM w2 { s with nh := s.nh + 1, F := F, I := I1, A := A1 ++ [a], U := updU s.U a e, out := out1, missed := s.missed, D := s.D ++ [a], dq := dq, dcap := dcap } := by rw [← eU]; exact cm2
    have hB3 : But (cMine w s.h) w w2 := cMine_trans hH.but hB2
    have cx := cx_new h hH hb e bs s.missed dcap (s.D ++ [a]) dq (s.nh + 1) cm3 hB3 e1' hdat (.inr ⟨e4, rfl⟩)
    refine ⟨_, by show CX _ w2 { s with nh := s.nh + 1, F := F, I := I1, A := A1 ++ [a], U := updU (updU s.U a (newE block)) a e, out := out1, D := s.D ++ [a], dq := dq, dcap := dcap } vs _; rw [eU]; exact cx, ?_⟩
    show acOf { s with nh := s.nh + 1, F := F, I := I1, A := A1 ++ [a], U := updU (updU s.U a (newE block)) a e, out := out1, D := s.D ++ [a], dq := dq, dcap := dcap } _ = _
    rw [eU, evict_abs h hH.ev]
    have hA1 : ∀ k ∈ A1, k ≠ a := fun k hk e => by
      have := h.cm.alt (hH.sub k hk)
      have := hH.new
      omega
    have e5 : A1.map (heOf (updU s.U a e) (fun k => if k = a then bs else B k)) = A1.map (heOf s.U B) := List.map_congr_left fun k hk => by
      unfold heOf
      simp [updU_other _ _ (hA1 k hk), hA1 k hk]
    unfold acOf
    simp only [List.map_append, List.map_cons, List.map_nil, e5]
    congr 2
    unfold heOf
    simp [updU_same, e1', e2', e3', e4]

set_option maxRecDepth 8000 in
set_option maxHeartbeats 1000000 in
theorem put_dirty (s : CS) (vs : VS) (B : Nat → By) (a b : Nat) (q : Option Addr) (c : Nat) (bs : By) (w : World) (h : CI w s vs B) (hz : CB s b) (ha : a ∈ s.A) (hd : (s.U a).dirty = true) (hbs : Bytes w q bs) (hbl : bs.length = 512) (hbz : b < 800000) :
    Calls Tryz.prog 31 #[ep s.c, .int .i64 ((s.U a).block : Nat), .slice q 512 c] w fun e w' => e = .returned (.int .i64 0) ∧ ∃ s' B', Cst w w' s s' vs B' b ∧ acOf s' B' = (acOf s B).put (s.U a).block bs := by
  have hh : (acOf s B).held (s.U a).block = true := held_iff.2 ⟨a, ha, rfl⟩
  have hput : (acOf s B).put (s.U a).block bs = AC.touch { acOf s B with L := (acOf s B).L.map fun x => if x.block = (s.U a).block then putF bs x else x } (s.U a).block id := by
    unfold AC.put
    rw [hh, if_pos rfl, touch_two _ _ (putF bs) (fun x => ⟨rfl, fun _ => rfl⟩)]
  rw [hput]
  have hnb := h.nb
  have hbk := h.blk a ha
  have c0 : w.cell? ⟨s.c, 0, none⟩ = some (dp vs.v) := by rw [cellOf h.cm.hp.cell 0, ← h.vv]; rfl
  have cB := vBlocks vs.v vs.commits vs.turn vs.next (some vs.f) vs.d.count vs.d w h.vi.vol h.vi.dev h.vi.n16
  have i1 : ¬ (((s.U a).block : Nat) : Int) < 0 := by omega
  have i2 : ¬ (((s.U a).block : Nat) : Int) ≥ ((nbOf vs.d.n : Nat) : Int) := by omega
  have cH := hold_yes s a w h.cm ha
  obtain ⟨gq, oq, hq, hqx⟩ := hbs (by omega)
  subst hq
  have cl := clone_bytes gq oq bs c w hbs (by omega) (by omega)
  rw [hbl] at cl
  have H0 : Hid (CI w s vs B) := h
  clear h hqx hbs hput
  generalize hbk2 : (s.U a).block = block at *
  go_enter Tryz.func31, Tryz.ntmps31
  go_wp2_with (first
    | (go_at_call 55; refine Calls_on cB ?_)
    | (go_at_call 78; refine Calls_on cH ?_)
    | (go_at_call 74; refine cl.mono ?_; rintro e w2 ⟨g, cp, rfl, hg2, hcp2, hb2, hB2, ht2⟩; clear cl; refine Stop.out ?_))
  refine Stop.mk ?_
  have h2 := H0.out.below hB2
  obtain ⟨x, hE⟩ := h2.cm.entAny ha
  have d1 : w2.cell? ⟨a, 1, none⟩ = some (.slice (s.U a).p (s.U a).n (s.U a).cp) := by rw [cellOf hE 1]; rfl
  have f1 := frozenOf hE 1
  have d3 : w2.cell? ⟨a, 3, none⟩ = some (.bool true) := by rw [cellOf hE 3, ← hd]; rfl
  have cm3 := h2.cm.setE ha 1 (.slice (some ⟨g, 0, none⟩) 512 cp) { s.U a with p := some ⟨g, 0, none⟩, n := 512, cp := cp } (fun _ => rfl) rfl (h2.cm.hp.used a)
  have mE : cMine w2 s.h a := h2.cm.mineE ha
  have hB3 : But (cMine w2 s.h) w2 (w2.setCell ⟨a, 1, none⟩ (.slice (some ⟨g, 0, none⟩) 512 cp)) := (But.refl (cMine w2 s.h) w2).setCell _ mE _
  have hdat : DatAt (w2.setCell ⟨a, 1, none⟩ (.slice (some ⟨g, 0, none⟩) 512 cp)) { s.U a with p := some ⟨g, 0, none⟩, n := 512, cp := cp } bs := (h2.keep hB3).2 _ _ ⟨rfl, hbl, hcp2, g, rfl, hb2, ht2⟩
  have cx3 := cx_setE (h2.weak a) { s.U a with p := some ⟨g, 0, none⟩, n := 512, cp := cp } bs s.D s.dq s.dcap cm3 hB3 ha rfl hdat (.inl ⟨rfl, rfl⟩) (fun hx => by have : (s.U a).dirty = false := hx; rw [hd] at this; cases this)
  have htab := touched_abs (B := B) h2.cm ha { s.U a with p := some ⟨g, 0, none⟩, n := 512, cp := cp } bs (putF bs) (by unfold putF heOf; simp [hd])
  obtain ⟨S5, hS5⟩ : ∃ S5 : CS, S5 = { s with U := updU s.U a { s.U a with p := some ⟨g, 0, none⟩, n := 512, cp := cp } } := ⟨_, rfl⟩
  have cx5 : CX (fun k => k = a) (w2.setCell ⟨a, 1, none⟩ (.slice (some ⟨g, 0, none⟩) 512 cp)) S5 vs (fun k => if k = a then bs else B k) := by rw [hS5]; exact cx3
  have hcb5 : CB S5 b := by rw [hS5]; exact ⟨hz.nh, hz.uses, hz.met, hz.missed, hz.out⟩
  have ha5 : a ∈ S5.A := by rw [hS5]; exact ha
  have hc5 : S5.c = s.c := by rw [hS5]
  have hh5 : S5.h = s.h := by rw [hS5]
  have hac5 : acOf S5 (fun k => if k = a then bs else B k) = { acOf s B with L := (acOf s B).L.map fun x => if x.block = block then putF bs x else x } := by
    rw [hS5]
    unfold acOf
    simp only
    rw [htab, hbk2]
    rfl
  have hb5 : (S5.U a).block = block := by
    rw [hS5]
    show (updU s.U a _ a).block = block
    rw [updU_same]; exact hbk2
  have cU := use_cx cx5 ha5 hcb5 (by omega)
  rw [hc5] at cU
  have hB4 : But (cMine w s.h) w (w2.setCell ⟨a, 1, none⟩ (.slice (some ⟨g, 0, none⟩) 512 cp)) := cMine_trans (But.of_below hB2) hB3
  have H6 : Hid (But (cMine w s.h) w (w2.setCell ⟨a, 1, none⟩ (.slice (some ⟨g, 0, none⟩) 512 cp)) ∧ acOf S5 (fun k => if k = a then bs else B k) = { acOf s B with L := (acOf s B).L.map fun x => if x.block = block then putF bs x else x } ∧ (S5.U a).block = block ∧ CB S5 b ∧ S5.c = s.c ∧ S5.h = s.h) := ⟨hB4, hac5, hb5, hcb5, hc5, hh5⟩
  clear h2 hE cm3 mE hB3 hdat cx3 htab hS5 cx5 hcb5 ha5 hc5 hh5 hac5 hb5 hB4 hcp2 hb2 ht2 hg2 cH cB c0
  go_wp2_with (go_at_call 73; refine cU.mono ?_; rintro e w6 ⟨rfl, s6, hI6, hU6, hac6⟩; clear cU)
  go_ret
  obtain ⟨hBw, hac, hblkU, hcb5, hc5, hh5⟩ := H6.out
  obtain ⟨ip, icap, I', he6⟩ := hU6.eq
  have hB7 : But (cMine w s.h) w w6 := by
    refine cMine_trans hBw ?_
    rw [← hh5]
    exact hU6.but
  have := hcb5.uses
  refine ⟨rfl, s6, _, ⟨hI6, ?_, by rw [he6]; exact hc5, by rw [he6]; exact hh5, hB7⟩, ?_⟩
  · rw [he6]
    exact ⟨by have := hcb5.nh; show S5.nh ≤ _; omega, by show S5.uses + 1 ≤ _; omega, by have := hcb5.met; show S5.met ≤ _; omega, by have := hcb5.missed; show S5.missed ≤ _; omega, by have := hcb5.out; show S5.out ≤ _; omega⟩
  · rw [hac6, hac, hblkU]

set_option maxRecDepth 8000 in
set_option maxHeartbeats 1000000 in
theorem put_full (s : CS) (vs : VS) (B : Nat → By) (block : Nat) (q : Option Addr) (c : Nat) (w : World) (h : CI w s vs B) (hb : block < nbOf vs.d.n) (hh : (acOf s B).held block = false) (hf : (acOf s B).full = true) :
    Calls Tryz.prog 31 #[ep s.c, .int .i64 (block : Nat), .slice q 512 c] w fun e w' => e = .returned (.int .i64 28) ∧ ∃ k, w' = w.drewN k := by
  have hnb := h.nb
  have c0 : w.cell? ⟨s.c, 0, none⟩ = some (dp vs.v) := by rw [cellOf h.cm.hp.cell 0, ← h.vv]; rfl
  have cB := vBlocks vs.v vs.commits vs.turn vs.next (some vs.f) vs.d.count vs.d w h.vi.vol h.vi.dev h.vi.n16
  have i1 : ¬ ((block : Nat) : Int) < 0 := by omega
  have i2 : ¬ ((block : Nat) : Int) ≥ ((nbOf vs.d.n : Nat) : Int) := by omega
  obtain ⟨h1, h2⟩ := h.full_iff.1 hf
  have cH := hold_no s block w h.cm (by omega) (held_not hh) h1 h2
  clear h
  go_enter Tryz.func31, Tryz.ntmps31
  go_wp2_with (first
    | (go_at_call 55; refine Calls_on cB ?_)
    | (go_at_call 78; refine cH.mono ?_; rintro e w1 ⟨rfl, k, rfl⟩; clear cH))
  go_ret
  exact ⟨rfl, k, rfl⟩
set_option maxRecDepth 8000 in
set_option maxHeartbeats 1000000 in
theorem put_bad (s : CS) (vs : VS) (B : Nat → By) (x : Int) (q : Option Addr) (n c : Nat) (w : World) (h : CI w s vs B) (hx : ¬ (0 ≤ x ∧ x < nbOf vs.d.n) ∨ n ≠ 512) :
    Calls Tryz.prog 31 #[ep s.c, .int .i64 x, .slice q n c] w fun e w' => e = .returned (.int .i64 22) ∧ w' = w := by
  have c0 : w.cell? ⟨s.c, 0, none⟩ = some (dp vs.v) := by rw [cellOf h.cm.hp.cell 0, ← h.vv]; rfl
  have cB := vBlocks vs.v vs.commits vs.turn vs.next (some vs.f) vs.d.count vs.d w h.vi.vol h.vi.dev h.vi.n16
  clear h
  by_cases i0 : x < 0
  · go_enter Tryz.func31, Tryz.ntmps31
    go_wp2
    go_ret
    exact ⟨rfl, rfl⟩
  · by_cases i2 : x ≥ ((nbOf vs.d.n : Nat) : Int)
    · go_enter Tryz.func31, Tryz.ntmps31
      go_wp2_with (go_at_call 55; refine Calls_on cB ?_)
      go_ret
      exact ⟨rfl, rfl⟩
    · have hn5 : ((n : Int) != 512) = true := by
        rw [bne_iff_ne]
        rcases hx with hx | hx
        · exact absurd ⟨by omega, by omega⟩ hx
        · omega
      go_enter Tryz.func31, Tryz.ntmps31
      go_wp2_with (go_at_call 55; refine Calls_on cB ?_)
      go_ret
      exact ⟨rfl, rfl⟩

end Go.Proofs.YtphedokdckoccaaGreatDoor

/-
  New and Drop of package bcache.
-/
namespace Go.Proofs.YtphedokdckoccaaGreatDoor
open Go.RowKit Go.Maps Go.Sort Go.Shelf

def noU : Nat → EV := fun _ => ⟨0, none, 0, 0, 0, false, 0⟩
def newS (c v room h : Nat) : CS := ⟨c, v, room, h, 0, .map [], none, 0, [], none, 0, [], [], noU, 0, 0, 0, 0⟩

set_option maxRecDepth 8000 in
set_option maxHeartbeats 1000000 in
theorem new_none (room : Int) (v : Value) (hv : v = .pointer none ∨ ∃ a, v = dp a) (w : World) (h : v = .pointer none ∨ room < 1 ∨ 4096 < room) :
    Calls Tryz.prog 23 #[v, .int .i64 room] w fun e w' => e = .returned (.pointer none) ∧ w' = w := by
  rcases hv with rfl | ⟨a, rfl⟩
  · go_enter Tryz.func23, Tryz.ntmps23
    go_wp2
    go_ret
    exact ⟨rfl, rfl⟩
  · rcases h with h | h | h
    · cases h
    · go_enter Tryz.func23, Tryz.ntmps23
      go_wp2
      go_ret
      exact ⟨rfl, rfl⟩
    · have h' : ¬ room < 1 := by omega
      go_enter Tryz.func23, Tryz.ntmps23
      go_wp2
      go_ret
      exact ⟨rfl, rfl⟩

set_option maxRecDepth 8000 in
set_option maxHeartbeats 1000000 in
theorem new_ok (room : Nat) (vs : VS) (w : World) (h : VI w vs) (h1 : 1 ≤ room) (h2 : room ≤ 4096) :
    Calls Tryz.prog 23 #[dp vs.v, .int .i64 (room : Nat)] w fun e w' => ∃ c hh, e = .returned (ep c) ∧ CI w' (newS c vs.v room hh) vs (fun _ => []) ∧ Below w.heap.size w w' ∧ w.heap.size ≤ hh ∧ w.heap.size ≤ c := by
  have i1 : ¬ ((room : Nat) : Int) < 1 := by omega
  have i2 : ¬ ((room : Nat) : Int) > 4096 := by omega
  have hmm := @run_makeMap Tryz.prog
  have H0 : Hid (VI w vs) := h
  clear h
  go_enter Tryz.func23, Tryz.ntmps23
  go_wp2
  go_ret
  have h := H0.out
  have hB1 : Below w.heap.size w (w.alloc (.map #[] 0)) := (Below.refl _ w).alloc (Nat.le_refl _) _
  have hm : (w.alloc (.map #[] 0)).heap[w.heap.size]? = some (.map #[] 0) := (MapKept.heap_alloc w _).1
  obtain ⟨w1, hw1⟩ : ∃ w1, w1 = w.alloc (.map #[] 0) := ⟨_, rfl⟩
  have hs1 : w1.heap.size = w.heap.size + 1 := by rw [hw1]; simp
  rw [← hw1] at hm hB1
  have hB2 : Below w.heap.size w (w1.alloc (.cells #[dp vs.v, .int .i64 (room : Nat), .map (some w.heap.size), .slice none 0 0, .slice none 0 0, .int .i64 0, .int .i64 0, .int .i64 0, .int .i64 0] 115)) := hB1.alloc hB1.size _
  have hc : (w1.alloc (.cells #[dp vs.v, .int .i64 (room : Nat), .map (some w.heap.size), .slice none 0 0, .slice none 0 0, .int .i64 0, .int .i64 0, .int .i64 0, .int .i64 0] 115)).heap[w.heap.size + 1]? = some (.cells ((newS (w.heap.size + 1) vs.v room w.heap.size).ck.cells (.slice none 0 0)) 115 (0, 0)) := by
    rw [← hs1]; exact heap_alloc_new w1 _
  have hm2 : (w1.alloc (.cells #[dp vs.v, .int .i64 (room : Nat), .map (some w.heap.size), .slice none 0 0, .slice none 0 0, .int .i64 0, .int .i64 0, .int .i64 0, .int .i64 0] 115)).heap[w.heap.size]? = some (.map #[] 0) := (Below.heap_alloc w1 _ _ (by omega)).trans hm
  have hfl := h.fresh.own.lt
  have hml := h.dev.mlt
  rw [← hw1]
  have nomem : ∀ {p : Prop} (a : Nat), a ∈ ([] : List Nat) → p := fun a ha => by cases ha
  refine ⟨w.heap.size + 1, rfl, w.heap.size, ⟨⟨⟨hc, World.ownsRow_nil _ _ _ _, (fun k hk => absurd hk (Nat.not_lt_zero _)), List.nodup_nil, (by show 0 < 1000000; omega), (fun _ => by show 0 < 1000000000; omega)⟩, (fun a ha => nomem a ha), (fun a ha => nomem a ha), HM.empty hm2 _, World.ownsRow_nil _ _ _ _, (fun k hk => by cases hk), (by show w.heap.size < w.heap.size + 1; omega), (fun a ha => nomem a ha), (fun k hk => by cases hk), (fun k hk => by cases hk)⟩, h.below hB2, rfl, ?_, ?_, (fun a ha => nomem a ha), (fun _ h => h.elim), (fun _ k _ hk => absurd hk (Nat.not_lt_zero _)), (fun b _ => ⟨fun hb => nomem b hb, fun hb => nomem b hb.1⟩), (fun b => ⟨fun hb => nomem b hb, fun hb => nomem b hb.1⟩), List.nodup_nil, (fun b hb => nomem b hb), (fun b hb => nomem b hb), (fun b hb => nomem b hb), (fun b hb => nomem b hb), h1, h2, Nat.zero_le _⟩, hB2, Nat.le_refl _, by omega⟩
  · show w.heap.size ≠ vs.f
    omega
  · show w.heap.size ≠ vs.d.m
    omega

/-- The blocks that are not dirty. -/
def AC.drop (A : AC) : AC := { A with L := A.L.filter fun x => !x.dirty }

/-- The dirty row is nil again. -/
theorem cm_clean {w : World} {s : CS} (h : CM w s) : CM (w.setCell ⟨s.c, 3, none⟩ (.slice none 0 0)) { s with D := [], dq := none, dcap := 0 } := by
  have hb : But (fun k => k = s.c) w (w.setCell ⟨s.c, 3, none⟩ (.slice none 0 0)) := (But.refl (fun k => k = s.c) w).setCell _ rfl _
  have ne : ∀ {k : Nat} {cs : Array Value} {t : TypeId} {fr : Nat × Nat}, w.heap[k]? = some (.cells cs t fr) → t ≠ 115 → ¬ k = s.c := fun hk ht e => apart_tags hk h.hp.cell ht e
  refine ⟨⟨?_, own_but h.hp.row hb (fun _ _ _ _ hk => ne hk (by decide)), fun k hk => (h.hp.ents k hk).but hb (ne (h.hp.ents k hk) (by decide)), h.hp.nodup, h.hp.len, h.hp.used⟩, fun a ha hi => (h.rest a ha hi).but hb (ne (h.rest a ha hi) (by decide)), h.sub, h.hm.but hb (h.hne h.hp.cell), World.ownsRow_nil _ _ _ _, (fun k hk => by cases hk), h.lo.1, h.lo.2.1, h.lo.2.2.1, (fun k hk => by cases hk)⟩
  show (w.setCell ⟨s.c, 3, none⟩ (.slice none 0 0)).heap[s.c]? = _
  rw [heap_setCell_same w s.c 3 _ _ _ h.hp.cell]
  rfl

theorem drop_cell {w : World} {s : CS} (h : CM w s) {k : Nat} (hk : k < s.D.length) : ∃ g, s.dq = some ⟨g, 0, none⟩ ∧ w.cell? ⟨g, k, none⟩ = some (ep (s.D.getD k 0)) := by
  rcases h.row.2 with ⟨_, h0⟩ | ⟨g, cap, cur, e, _⟩
  · omega
  · have hq : s.dq = some ⟨g, 0, none⟩ := by injection e
    refine ⟨g, hq, ?_⟩
    have hr := h.row
    rw [hq] at hr
    rw [hr.cellAt k (by simpa using hk), List.getElem?_map, List.getElem?_eq_getElem hk]
    simp [List.getD, hk]

set_option maxRecDepth 8000 in
set_option maxHeartbeats 2000000 in
theorem drop_any (s : CS) (vs : VS) (B : Nat → By) (b : Nat) (w : World) (h : CI w s vs B) (hz : CB s b) :
    Calls Tryz.prog 35 #[ep s.c] w fun e w' => e = .returned (.tuple #[]) ∧ ∃ s', Cst w w' s s' vs B b ∧ acOf s' B = (acOf s B).drop := by
  have hdl := dlen h
  have c3 : w.cell? ⟨s.c, 3, none⟩ = some (.slice s.dq s.D.length s.dcap) := by rw [cellOf h.cm.hp.cell 3]; rfl
  have H0 : Hid (CI w s vs B) := h
  clear h
  go_enter Tryz.func35, Tryz.ntmps35
  go_wp2_with fail
  go_loopw [11] (fun ii wr => ∃ i : Nat, i ≤ s.D.length ∧ ii = .int .i64 i ∧ Hid (∃ F, CM wr { s with F := F, A := s.A.filter fun a => !(s.D.take i).contains a } ∧ But (cMine w s.h) w wr)) (fun ii _ => s.D.length - (intOf ii).toNat)
  case atStart =>
    refine ⟨0, Nat.zero_le _, rfl, s.F, ?_, But.refl _ _⟩
    have e : s.A.filter (fun a => !(s.D.take 0).contains a) = s.A := by simp
    rw [e]
    exact H0.out.cm
  case round =>
    obtain ⟨i, hi, rfl, HI⟩ := hrel
    by_cases hlt : i < s.D.length
    · have hltI : (i : Int) < (s.D.length : Nat) := by omega
      obtain ⟨F, cm, hB⟩ := HI.out
      obtain ⟨g, hq, hg⟩ := drop_cell cm (k := i) hlt
      have hq' : s.dq = some ⟨g, 0, none⟩ := hq
      obtain ⟨a, ha⟩ : ∃ a, s.D.getD i 0 = a := ⟨_, rfl⟩
      have hg' : wr.cell? ⟨g, i, none⟩ = some (ep a) := by rw [← ha]; exact hg
      have haD : a ∈ s.D := by rw [← ha]; exact getD_mem hlt
      have haA := ((H0.out.dirty a).1 haD).1
      have hat : a ∉ s.D.take i := fun hx => by
        obtain ⟨j, hj, e⟩ := List.getElem_of_mem hx
        have hj' : j < i := by simp at hj; omega
        have e2 : s.D.getD j 0 = a := by rw [← e]; simp [List.getD, show j < s.D.length by omega]
        have := getD_inj H0.out.dnd (show j < s.D.length by omega) hlt (e2.trans ha.symm)
        omega
      have haF : a ∈ s.A.filter (fun a => !(s.D.take i).contains a) := by simp [List.mem_filter, haA, hat]
      obtain ⟨x, hE⟩ := cm.entAny haF
      have d2 : wr.cell? ⟨s.c, 2, none⟩ = some (.map (some s.h)) := by rw [cellOf cm.hp.cell 2]; rfl
      have d0 : wr.cell? ⟨a, 0, none⟩ = some (.int .i64 ((s.U a).block : Nat)) := by rw [cellOf hE 0]; rfl
      have hm1 : HM wr.drew s.h s.nh F (s.A.filter fun a => !(s.D.take i).contains a) (fun a => (s.U a).block) := cm.hm.but (S := fun _ => False) ⟨rfl, rfl, rfl, Nat.le_refl _, fun _ _ _ => rfl⟩ (fun h => h)
      obtain ⟨w3, F3, hdel, hm3, hb3⟩ := hm1.del haF 0
      have hb3' : But (fun k => k = s.h) wr w3 := ⟨hb3.os, hb3.tape, hb3.output, hb3.size, hb3.block⟩
      have haI : a ∉ s.I := fun hx => by
        have h1 := ((H0.out.idle a (fun h => h)).1 hx).2
        have h2 := ((H0.out.dirty a).1 haD).2
        unfold idleE at h1
        rw [h2] at h1
        simp at h1
      have cm3 := cm.del (a := a) haI hm3 hb3'
      have ef : (s.A.filter fun a => !(s.D.take i).contains a).filter (fun b => b != a) = s.A.filter fun a => !(s.D.take (i + 1)).contains a := by
        rw [List.filter_filter]
        refine List.filter_congr fun k _ => ?_
        rw [List.take_succ_eq_append_getElem hlt]
        have e2 : s.D[i] = a := by rw [← ha]; simp [List.getD, hlt]
        rw [e2]
        by_cases e : k = a
        · subst e; simp
        · simp [e]
      have H3 : Hid (∃ F, CM w3 { s with F := F, A := s.A.filter fun a => !(s.D.take (i + 1)).contains a } ∧ But (cMine w s.h) w w3) := ⟨F3, by rw [← ef]; exact cm3, cMine_trans hB (hb3'.mono fun k _ hk => .inl hk)⟩
      clear hq hg ha haD haA hat haF hE hm1 hm3 hb3 hb3' haI cm3 ef cm hB HI
      go_wp2_with fail
      go_region
      all_goals go_wp2
      all_goals go_roundw
      all_goals first | exact ⟨i + 1, by omega, by go_num, H3⟩ | (simp [intOf]; omega)
    · obtain rfl : i = s.D.length := by omega
      have hge : ¬ ((s.D.length : Nat) : Int) < (s.D.length : Nat) := by omega
      obtain ⟨F, cm, hB⟩ := HI.out
      have d3 : wr.cell? ⟨s.c, 3, none⟩ = some (.slice s.dq s.D.length s.dcap) := by rw [cellOf cm.hp.cell 3]; rfl
      have f3 := frozenOf cm.hp.cell 3
      have cm4 := cm_clean cm
      have mC : cMine wr s.h s.c := cm.mineC
      have hB4 : But (cMine w s.h) w (wr.setCell ⟨s.c, 3, none⟩ (.slice none 0 0)) := cMine_trans hB ((But.refl (cMine wr s.h) wr).setCell _ mC _)
      have h := H0.out
      obtain ⟨hvi, hkeep⟩ := h.keep hB4
      have ef : s.A.filter (fun a => !(s.D.take s.D.length).contains a) = s.A.filter fun a => !(s.U a).dirty := by
        refine List.filter_congr fun a ha => ?_
        rw [List.take_length]
        cases hd : (s.U a).dirty with
        | true => simp [(h.dirty a).2 ⟨ha, hd⟩]
        | false =>
          have : a ∉ s.D := fun hx => by rw [((h.dirty a).1 hx).2] at hd; cases hd
          simp [this]
      have hmem : ∀ a, a ∈ s.A.filter (fun a => !(s.U a).dirty) ↔ a ∈ s.A ∧ (s.U a).dirty = false := fun a => by simp [List.mem_filter]
      have HF : Hid (Cst w (wr.setCell ⟨s.c, 3, none⟩ (.slice none 0 0)) s { s with F := F, A := s.A.filter (fun a => !(s.U a).dirty), D := [], dq := none, dcap := 0 } vs B b ∧ acOf { s with F := F, A := s.A.filter (fun a => !(s.U a).dirty), D := [], dq := none, dcap := 0 } B = (acOf s B).drop) := by
        refine ⟨⟨⟨by rw [← ef]; exact cm4, hvi, h.vv, h.hf, h.hd, fun a ha => hkeep _ _ (h.dat a ((hmem a).1 ha).1), fun _ h => h.elim, h.ord, fun a _ => ?_, fun a => ?_, List.nodup_nil, fun a ha => h.used a ((hmem a).1 ha).1, fun a ha c hc => h.uinj a ((hmem a).1 ha).1 c ((hmem c).1 hc).1, fun a ha => h.blk a ((hmem a).1 ha).1, fun a ha => h.clean a ((hmem a).1 ha).1, h.room.1, h.room.2.1, Nat.le_trans (List.length_filter_le _ _) h.room.2.2⟩, ⟨by have := hz.nh; show s.nh ≤ _; omega, by have := hz.uses; show s.uses ≤ _; omega, by have := hz.met; show s.met ≤ _; omega, by have := hz.missed; show s.missed ≤ _; omega, by have := hz.out; show s.out ≤ _; omega⟩, rfl, rfl, hB4⟩, ?_⟩
        · show a ∈ s.I ↔ a ∈ s.A.filter (fun a => !(s.U a).dirty) ∧ idleE (s.U a) = true
          rw [hmem, h.idle a (fun h => h)]
          constructor
          · rintro ⟨h1, h2⟩
            refine ⟨⟨h1, ?_⟩, h2⟩
            cases hd : (s.U a).dirty with
            | false => rfl
            | true => unfold idleE at h2; rw [hd] at h2; simp at h2
          · rintro ⟨⟨h1, _⟩, h2⟩; exact ⟨h1, h2⟩
        · show a ∈ [] ↔ a ∈ s.A.filter (fun a => !(s.U a).dirty) ∧ (s.U a).dirty = true
          rw [hmem]
          constructor
          · intro h; cases h
          · rintro ⟨⟨_, h1⟩, h2⟩; rw [h1] at h2; cases h2
        · unfold acOf AC.drop
          simp only [List.filter_map]
          rfl
      clear cm cm4 mC hB4 h hvi hkeep ef hmem hB HI
      go_wp2
      go_end0
      exact ⟨rfl, _, HF.out.1, HF.out.2⟩

end Go.Proofs.YtphedokdckoccaaGreatDoor

/-
  DERIVED: THE SHELF's CONTRACTS AT THIS DUMP, IN PLAIN WORDS (tools/lay-plain.mjs out of 'YtphedokdckoccaaGreatDoorShelfb.lean', which tools/lay-shelf.mjs wrote): THE SAME DECLARATIONS UNDER THE SAME NAMES: 'import', 'namespace', 'open', 'def', 'theorem' AND NOTHING ELSE: no command of the shelf's: FOR A HAND-IN. Each laying: the table of numbers ('.._ren') and one theorem, a field a fact of the dump's own or the kernel's comparison; each contract: ONE APPLICATION.
-/
namespace Go.Proofs
open Go.Shelf
def Tryz.keysC_ren : Go.Shelf.Ren := ⟨fun | 7 => 128 | 10 => 169 | n => n, fun | 23 => 111 | 26 => 3 | 3 => 116 | 28 => 180 | 0 => 0 | 27 => 179 | 33 => 65 | 4 => 4 | n => n, fun | n => n⟩
theorem Tryz.keysC : Go.Proofs.SlLaysZI.n7 Tryz.prog Tryz.keysC_ren := {
  mixed := by kernel_rfl
  f7 := ⟨Tryz.f128.name, by decide, Tryz.func128.trans (congrArg some (by kernel_rfl))⟩
  f10 := ⟨Tryz.f169.name, by decide, Tryz.func169.trans (congrArg some (by kernel_rfl))⟩
  t0 := Tryz.underlying0
  a0 := Tryz.isAgg0
  z0 := Tryz.sizeOf0
  v0 := Tryz.zeroValue0
  t4 := Tryz.underlying4
  a4 := Tryz.isAgg4
  z4 := Tryz.sizeOf4
  v4 := Tryz.zeroValue4
  t23 := Tryz.underlying111
  a23 := Tryz.isAgg111
  z23 := Tryz.sizeOf111
  v23 := Tryz.zeroValue111
  t26 := Tryz.underlying3
  a26 := Tryz.isAgg3
  z26 := Tryz.sizeOf3
  v26 := Tryz.zeroValue3
  t27 := Tryz.underlying179
  a27 := Tryz.isAgg179
  z27 := Tryz.sizeOf179
  v27 := Tryz.zeroValue179
  t28 := Tryz.underlying180
  a28 := Tryz.isAgg180
  z28 := Tryz.sizeOf180
  v28 := Tryz.zeroValue180
  t33 := Tryz.underlying65
  a33 := Tryz.isAgg65
  z33 := Tryz.sizeOf65
  v33 := Tryz.zeroValue65 }
end Go.Proofs

/-
  Held of package bcache: the numbers of the blocks that are held, rising.
-/
namespace Go.Proofs.YtphedokdckoccaaGreatDoor
open Go.RowKit Go.Maps Go.Sort Go.Shelf Go.ChangeMaps Go.MapKept
open Go.WideElems (Fit rd rg pl rd_val elemAt rd_key rg_of)

set_option maxRecDepth 8000 in
set_option maxHeartbeats 1000000 in
theorem held_raw (s : CS) (w : World) (h : CM w s) (hl : s.A.length ≤ 4096) :
    Calls Tryz.prog 82 #[ep s.c] w fun e w' => ∃ (v : Value) (ss : List Int), e = .returned v ∧ ss.Perm (intKeys s.F) ∧
      w'.ownsRow w.heap.size 3 1 v ss.length ((ss.mergeSort (fun x y => decide (x ≤ y))).map encZ) ∧ (v = .slice none 0 0 ↔ ss = []) ∧ Below w.heap.size w w' := by
  refine (callsIn_wide (n := 6)).1 ?_
  have hown := h.hm.own
  have hbl := hown.lt
  have hsz := h.hm.size
  have c2 : w.cell? ⟨s.c, 2, none⟩ = some (.map (some s.h)) := by rw [cellOf h.hp.cell 2]; rfl
  have hseq : SeqGives Fence.wide 2 Tryz.prog 169 #[.pointer (some ⟨w.heap.size, 0, none⟩)] encZ (fun ss => ss.Perm (intKeys s.F)) (Maps.size s.F) (w.alloc (.cells #[.map (some s.h)] 111)) :=
    AnyZI.keys_gives (ρ := Tryz.keysC_ren) { Tryz.keysC with } Fence.wide _ trivial rfl (by omega) w.heap.size s.h s.nh s.F _ (by simp) (by simp) (by
      obtain ⟨es, clock, hb, Ft, hs, hD⟩ := hown
      exact ⟨es, clock, (Below.heap_alloc _ _ s.h hbl).trans hb, Ft, hs, hD⟩)
  have cK : ∀ mb W, CallsIn Fence.wide 5 Tryz.prog 128 #[.map mb] W fun e w' => e = .returned (.func (.func 169) #[] #[.pointer (some ⟨W.heap.size, 0, none⟩)]) ∧ w' = W.alloc (.cells #[.map mb] 111) := fun mb W => AnyZI.keys_in Tryz.keysC Fence.wide 5 trivial rfl mb W
  have cS := AnyZI.sorted_in Tryz.sortedA Fence.wide 5 trivial trivial trivial trivial rfl (by omega) (sortsA _) (enters_of Tryz.func155 (by kernel_rfl) rfl) 169 #[.pointer (some ⟨w.heap.size, 0, none⟩)] trivial (enters_of Tryz.func169 (by kernel_rfl) rfl) _ _ (by rw [hsz]; unfold maxLen; omega) (by rw [hsz]; omega) _ hseq
  change CallsIn _ _ Tryz.prog 116 _ _ _ at cS
  have hfK : Fence.wide.fn 128 := trivial
  have hfS : Fence.wide.fn 116 := trivial
  clear hown h hseq
  refine callsIn_of_wp Tryz.func82 rfl trivial ?_ rfl
  simp only [Tryz.ntmps82, List.size_toArray, List.length_cons, List.length_nil, Nat.reduceAdd, Nat.reduceSub, Array.replicate_succ, Array.replicate_zero, List.push_toArray, List.append_toArray, List.nil_append, List.cons_append]
  gi_wp2_with (first
    | (gi_at_call 128; refine (cK _ _).mono ?_; rintro e w' ⟨rfl, rfl⟩)
    | (gi_at_call 116; refine cS.mono ?_; rintro e w' ⟨v, ss, rfl, hS, hrow, hnil, hb⟩))
  go_ret
  exact ⟨v, ss, rfl, hS, ownsRow_base_a hrow (by simp), hnil, ((Below.refl _ w).alloc (Nat.le_refl _) _).trans (hb.mono (by simp))⟩

/-- The blocks that are held, rising. -/
def heldL (A : AC) (nb : Nat) : List Nat := (List.range nb).filter fun j => A.held j

set_option maxRecDepth 100000 in
theorem held_keys {w : World} {s : CS} {vs : VS} {B : Nat → By} (h : CI w s vs B) : keys s.F = (heldL (acOf s B) (nbOf vs.d.n)).map fun j : Nat => (j : Int) := by
  have hown := h.cm.hm.own
  have hhas := h.cm.hm.has
  obtain ⟨es, he, hp⟩ := hown.tidy keyed
  rw [he] at hown hhas ⊢
  have hk : ∀ p ∈ es, ∃ x, p.1 = .int .i64 x := by
    intro p hpm
    obtain ⟨es0, clock, _, F, _, hD⟩ := hown
    cases hD
    obtain ⟨x, hx, rfl⟩ := List.mem_map.1 (mem_sorted.1 hpm)
    obtain ⟨y, hy⟩ := F.reads x hx
    rw [rg_of hy]
    obtain ⟨x, _, hx, _⟩ := Maps.keyOf_i64 Tryz.underlying3 (rd_key hy)
    exact ⟨x, hx⟩
  have hpl : (heldL (acOf s B) (nbOf vs.d.n)).Pairwise (· < ·) := List.Pairwise.filter _ List.pairwise_lt_range
  have hnd : ((heldL (acOf s B) (nbOf vs.d.n)).map fun j : Nat => (j : Int)).Nodup := by
    refine List.pairwise_map.2 (List.Pairwise.imp (R := (· < ·)) (fun h => by omega) hpl)
  have hmem : ∀ j, j ∈ heldL (acOf s B) (nbOf vs.d.n) ↔ j < nbOf vs.d.n ∧ (acOf s B).held j = true := fun j => by
    unfold heldL
    rw [List.mem_filter, List.mem_range]
  have hperm := perm_intKeys hp hk hnd (fun x => by
    constructor
    · intro hx
      obtain ⟨j, hj, rfl⟩ := List.mem_map.1 hx
      obtain ⟨a, ha, e⟩ := held_iff.1 ((hmem j).1 hj).2
      exact (hhas _).2 ⟨a, ha, by omega⟩
    · intro hx
      obtain ⟨a, ha, e⟩ := (hhas x).1 hx
      refine List.mem_map.2 ⟨(s.U a).block, (hmem _).2 ⟨h.blk a ha, held_iff.2 ⟨a, ha, rfl⟩⟩, e⟩)
  unfold keys
  rw [← mergeSort_of_perm_i hperm]
  refine List.mergeSort_of_pairwise ?_
  rw [List.pairwise_map]
  exact List.Pairwise.imp (R := (· < ·)) (fun h => by simp; omega) hpl

/-- A slice of numbers. -/
def IntsAt (w : World) (p : Option Addr) (l : List Nat) : Prop := 0 < l.length → ∃ g, p = some ⟨g, 0, none⟩ ∧ (∃ cs fr, w.heap[g]? = some (.cells cs 3 fr)) ∧ ∀ k x, l[k]? = some x → w.cell? ⟨g, k, none⟩ = some (.int .i64 (x : Nat))
theorem IntsAt.but {w w' : World} {p : Option Addr} {l : List Nat} {S : Nat → Prop} (h : IntsAt w p l) (hb : But S w w') (hS : ∀ k cs fr, w.heap[k]? = some (.cells cs 3 fr) → ¬ S k) : IntsAt w' p l := by
  intro hl
  obtain ⟨g, e, ⟨cs, fr, ht⟩, hc⟩ := h hl
  have hk := hb.block g (Array.getElem?_eq_some_iff.1 ht).1 (hS g cs fr ht)
  exact ⟨g, e, ⟨cs, fr, hk.trans ht⟩, fun k x hx => (World.cell?_of_block (w := w) hk).trans (hc k x hx)⟩
theorem IntsAt.below {w w' : World} {p : Option Addr} {l : List Nat} (h : IntsAt w p l) (hb : Below w.heap.size w w') : IntsAt w' p l :=
  h.but (S := fun _ => False) (But.of_below hb) (fun _ _ _ _ h => h)

theorem held_cache (s : CS) (vs : VS) (B : Nat → By) (w : World) (h : CI w s vs B) :
    Calls Tryz.prog 82 #[ep s.c] w fun e w' => ∃ p cp, e = .returned (.slice p (heldL (acOf s B) (nbOf vs.d.n)).length cp) ∧ IntsAt w' p (heldL (acOf s B) (nbOf vs.d.n)) ∧ Below w.heap.size w w' := by
  refine (held_raw s w h.cm (by have := h.room; omega)).mono ?_
  rintro e w' ⟨v, ss, rfl, hperm, hrow, hnil, hb⟩
  have hk : ss.mergeSort (fun x y => decide (x ≤ y)) = keys s.F := mergeSort_of_perm_i hperm
  have hlen : ss.length = (heldL (acOf s B) (nbOf vs.d.n)).length := by
    have : (ss.mergeSort (fun x y => decide (x ≤ y))).length = ss.length := by simp
    rw [← this, hk, held_keys h]; simp
  rw [hk, hlen, held_keys h] at hrow
  rcases hrow.2 with ⟨rfl, h0⟩ | ⟨g, cap, cur, rfl, hg, hblk, hcap, _, hsz, htk⟩
  · exact ⟨none, 0, by rw [h0], fun hp => by omega, hb⟩
  · refine ⟨_, cap, rfl, fun _ => ⟨g, rfl, ⟨_, _, hblk⟩, fun k x hx => ?_⟩, hb⟩
    have hlt := (List.getElem?_eq_some_iff.1 hx).1
    rw [hrow.cellAt k (by simpa using hlt)]
    simp [hx, encZ]

end Go.Proofs.YtphedokdckoccaaGreatDoor

/-
  DERIVED: THE SHELF's CONTRACTS AT THIS DUMP, IN PLAIN WORDS (tools/lay-plain.mjs out of 'YtphedokdckoccaaGreatDoorShelfc.lean', which tools/lay-shelf.mjs wrote): THE SAME DECLARATIONS UNDER THE SAME NAMES: 'import', 'namespace', 'open', 'def', 'theorem' AND NOTHING ELSE: no command of the shelf's: FOR A HAND-IN. Each laying: the table of numbers ('.._ren') and one theorem, a field a fact of the dump's own or the kernel's comparison; each contract: ONE APPLICATION.
-/
namespace Go.Proofs
open Go.Shelf
def Tryz.sortE_ren : Go.Shelf.Ren := ⟨fun | 6 => 79 | 15 => 126 | 14 => 125 | 28 => 167 | 29 => 168 | 20 => 159 | 21 => 160 | 22 => 161 | 23 => 162 | 24 => 163 | 25 => 164 | 26 => 165 | 27 => 166 | 46 => 186 | 47 => 187 | 48 => 188 | 49 => 189 | 50 => 190 | 57 => 210 | n => n, fun | 22 => 112 | 24 => 116 | 25 => 130 | 3 => 3 | 39 => 83 | 0 => 0 | 53 => 134 | 55 => 142 | 4 => 4 | 46 => 222 | 45 => 221 | 50 => 226 | 5 => 5 | 9 => 9 | 66 => 245 | 70 => 249 | 76 => 268 | 77 => 269 | n => n, fun | n => n⟩
theorem Tryz.sortE : Go.Proofs.SlLaysF.n6 Tryz.prog Tryz.sortE_ren := {
  mixed := by kernel_rfl
  f6 := ⟨Tryz.f79.name, by decide, Tryz.func79.trans (congrArg some (by kernel_rfl))⟩
  f14 := ⟨Tryz.f125.name, by decide, Tryz.func125.trans (congrArg some (by kernel_rfl))⟩
  f15 := Tryz.func126.trans (congrArg some (by kernel_rfl))
  f20 := ⟨Tryz.f159.name, by decide, Tryz.func159.trans (congrArg some (by kernel_rfl))⟩
  f21 := ⟨Tryz.f160.name, by decide, Tryz.func160.trans (congrArg some (by kernel_rfl))⟩
  f22 := ⟨Tryz.f161.name, by decide, Tryz.func161.trans (congrArg some (by kernel_rfl))⟩
  f23 := ⟨Tryz.f162.name, by decide, Tryz.func162.trans (congrArg some (by kernel_rfl))⟩
  f24 := ⟨Tryz.f163.name, by decide, Tryz.func163.trans (congrArg some (by kernel_rfl))⟩
  f25 := ⟨Tryz.f164.name, by decide, Tryz.func164.trans (congrArg some (by kernel_rfl))⟩
  f26 := ⟨Tryz.f165.name, by decide, Tryz.func165.trans (congrArg some (by kernel_rfl))⟩
  f27 := ⟨Tryz.f166.name, by decide, Tryz.func166.trans (congrArg some (by kernel_rfl))⟩
  f28 := Tryz.func167.trans (congrArg some (by kernel_rfl))
  f29 := Tryz.func168.trans (congrArg some (by kernel_rfl))
  f46 := ⟨Tryz.f186.name, by decide, Tryz.func186.trans (congrArg some (by kernel_rfl))⟩
  f47 := Tryz.func187.trans (congrArg some (by kernel_rfl))
  f48 := Tryz.func188.trans (congrArg some (by kernel_rfl))
  f49 := ⟨Tryz.f189.name, by decide, Tryz.func189.trans (congrArg some (by kernel_rfl))⟩
  f50 := ⟨Tryz.f190.name, by decide, Tryz.func190.trans (congrArg some (by kernel_rfl))⟩
  f57 := ⟨Tryz.f210.name, by decide, Tryz.func210.trans (congrArg some (by kernel_rfl))⟩
  t0 := Tryz.underlying0
  a0 := Tryz.isAgg0
  z0 := Tryz.sizeOf0
  v0 := Tryz.zeroValue0
  t3 := Tryz.underlying3
  a3 := Tryz.isAgg3
  z3 := Tryz.sizeOf3
  v3 := Tryz.zeroValue3
  t4 := Tryz.underlying4
  a4 := Tryz.isAgg4
  z4 := Tryz.sizeOf4
  v4 := Tryz.zeroValue4
  t5 := Tryz.underlying5
  a5 := Tryz.isAgg5
  z5 := Tryz.sizeOf5
  v5 := Tryz.zeroValue5
  t9 := Tryz.underlying9
  a9 := Tryz.isAgg9
  z9 := Tryz.sizeOf9
  v9 := Tryz.zeroValue9
  t22 := Tryz.underlying112
  a22 := Tryz.isAgg112
  z22 := Tryz.sizeOf112
  v22 := Tryz.zeroValue112
  a24 := Tryz.isAgg116
  z24 := Tryz.sizeOf116
  t25 := Tryz.underlying130
  a25 := Tryz.isAgg130
  z25 := Tryz.sizeOf130
  v25 := Tryz.zeroValue130
  t39 := Tryz.underlying83
  a39 := Tryz.isAgg83
  z39 := Tryz.sizeOf83
  v39 := Tryz.zeroValue83
  t45 := Tryz.underlying221
  a45 := Tryz.isAgg221
  z45 := Tryz.sizeOf221
  v45 := Tryz.zeroValue221
  t46 := Tryz.underlying222
  a46 := Tryz.isAgg222
  z46 := Tryz.sizeOf222
  v46 := Tryz.zeroValue222
  t50 := Tryz.underlying226
  a50 := Tryz.isAgg226
  z50 := Tryz.sizeOf226
  v50 := Tryz.zeroValue226
  t53 := Tryz.underlying134
  a53 := Tryz.isAgg134
  z53 := Tryz.sizeOf134
  v53 := Tryz.zeroValue134
  t55 := Tryz.underlying142
  a55 := Tryz.isAgg142
  z55 := Tryz.sizeOf142
  v55 := Tryz.zeroValue142
  t66 := Tryz.underlying245
  a66 := Tryz.isAgg245
  z66 := Tryz.sizeOf245
  v66 := Tryz.zeroValue245
  t70 := Tryz.underlying249
  a70 := Tryz.isAgg249
  z70 := Tryz.sizeOf249
  v70 := Tryz.zeroValue249
  t76 := Tryz.underlying268
  a76 := Tryz.isAgg268
  z76 := Tryz.sizeOf268
  v76 := Tryz.zeroValue268
  t77 := Tryz.underlying269
  a77 := Tryz.isAgg269
  z77 := Tryz.sizeOf269
  v77 := Tryz.zeroValue269 }
end Go.Proofs

/-
  slices.SortFunc of what is dirty in a cache.
-/
namespace Go.Proofs.YtphedokdckoccaaGreatDoor
open Go.RowKit Go.Maps Go.Sort Go.Shelf

def cmpI (x y : Int) : Int := if x < y then -1 else if x > y then 1 else 0

set_option maxRecDepth 8000 in
set_option maxHeartbeats 1000000 in
theorem compare_any (x y : Int) (w : World) : Calls Tryz.prog 81 #[.int .i64 x, .int .i64 y] w fun e w' => e = .returned (.int .i64 (cmpI x y)) ∧ w' = w := by
  have e1 : (x != x) = false := by simp
  have e2 : (y != y) = false := by simp
  by_cases h1 : x < y
  · go_enter Tryz.func81, Tryz.ntmps81
    go_wp2
    go_ret
    exact ⟨by unfold cmpI; rw [if_pos h1]; rfl, rfl⟩
  · by_cases h2 : x > y
    · go_enter Tryz.func81, Tryz.ntmps81
      go_wp2
      go_ret
      exact ⟨by unfold cmpI; rw [if_neg (by omega), if_pos h2]; rfl, rfl⟩
    · go_enter Tryz.func81, Tryz.ntmps81
      go_wp2
      go_ret
      exact ⟨by unfold cmpI; rw [if_neg (by omega), if_neg (by omega)]; rfl, rfl⟩

set_option maxRecDepth 8000 in
set_option maxHeartbeats 1000000 in
theorem cmp_entries (a b : Nat) (x y : Int) (w : World) (ha : w.cell? ⟨a, 0, none⟩ = some (.int .i64 x)) (hb : w.cell? ⟨b, 0, none⟩ = some (.int .i64 y)) :
    Calls Tryz.prog 80 #[ep a, ep b] w fun e w' => e = .returned (.int .i64 (cmpI x y)) ∧ ∃ q, w' = w.drewN q := by
  have cC := compare_any x y
  generalize cmpI x y = r at *
  go_enter Tryz.func80, Tryz.ntmps80
  go_wp2_with fail
  go_quiet ((go_at_call 81; exact Calls.quiet_of_same (cC _)))
  go_wp2
  go_ret
  exact ⟨rfl, _, rfl⟩

theorem ltOf_cmp (f : Nat → Nat) (x y : Nat) : decide (cmpI (f x : Int) (f y : Int) < 0) = decide (f x < f y) := by
  unfold cmpI
  by_cases h : f x < f y
  · have h' : ((f x : Nat) : Int) < f y := by omega
    rw [if_pos h']; simp [h]
  · have h' : ¬ ((f x : Nat) : Int) < f y := by omega
    rw [if_neg h']
    split <;> simp [h]

/-- The heap behind a sort. -/
theorem sortWorld_block {α : Type} [Inhabited α] (enc : α → Value) (w : World) (g n : Nat) (d : Array α) (os : Array Obj) {cur : Array Value} {t : TypeId} {fr : Nat × Nat} (hg : w.heap[g]? = some (.cells cur t fr)) :
    (sortWorld enc w g 0 n d os).heap[g]? = some (.cells (Sort.putCells enc 0 d cur) t fr) ∧ But (fun k => k = g) w (sortWorld enc w g 0 n d os) := by
  have hlt := (Array.getElem?_eq_some_iff.1 hg).1
  refine ⟨?_, rfl, rfl, rfl, ?_, fun k hk hne => ?_⟩
  · show ((w.heap.modify g _) ++ os)[g]? = _
    rw [Array.getElem?_append_left (by simpa using hlt), Array.getElem?_modify, if_pos rfl, hg]
    rfl
  · show w.heap.size ≤ ((w.heap.modify g _) ++ os).size
    simp
  · show ((w.heap.modify g _) ++ os)[k]? = _
    rw [Array.getElem?_append_left (by simpa using hk), Array.getElem?_modify, if_neg (fun e => hne e.symm)]

theorem sort_dirty (s : CS) (w : World) (h : CM w s) (hne : 0 < s.D.length) (hD : ∀ a ∈ s.D, a ∈ s.A) (hl : s.D.length < 100000) :
    Calls Tryz.prog 79 #[.slice s.dq s.D.length s.dcap, .func (.func 80) #[] #[]] w fun e w' => e = .returned (.tuple #[]) ∧ ∃ D', D'.Perm s.D ∧ CM w' { s with D := D' } ∧ But (cMine w s.h) w w' := by
  obtain ⟨a0, ha0⟩ : ∃ a, a ∈ s.A := ⟨s.D.getD 0 0, hD _ (getD_mem hne)⟩
  letI : Inhabited { a : Nat // a ∈ s.A } := ⟨⟨a0, ha0⟩⟩
  rcases h.row.2 with ⟨_, h0⟩ | ⟨g, cap, cur, e, _, hblk, hcap, hcm, hcs, htk⟩
  · omega
  have hq : s.dq = some ⟨g, 0, none⟩ ∧ s.dcap = cap := by injection e with e1 e2 e3; exact ⟨e1, e3⟩
  obtain ⟨d, hd⟩ : ∃ d : Array { a : Nat // a ∈ s.A }, d.toList.map (·.1) = s.D := ⟨(s.D.attachWith _ hD).toArray, by simp⟩
  have hsz : d.size = s.D.length := by rw [← hd]; simp
  have hget : ∀ j, (hj : j < d.size) → (d[j]!).1 = s.D.getD j 0 := fun j hj => by
    rw [getElem!_pos d j hj]
    have : (d.toList.map (·.1))[j]? = some (d[j]).1 := by simp [hj]
    rw [hd] at this
    simp [List.getD, this]
  have hrow := h.row
  rw [hq.1] at hrow
  have hH : Holds (fun x : { a : Nat // a ∈ s.A } => ep x.1) w g 0 d := fun j hj => by
    refine ⟨?_, frozenOf hblk (0 + j)⟩
    show w.cell? ⟨g, 0 + j, none⟩ = some (ep (d[j]!).1)
    rw [Nat.zero_add, hrow.cellAt j (by omega), List.getElem?_map, List.getElem?_eq_getElem (by rw [← hsz]; exact hj), hget j hj]
    simp [List.getD, show j < s.D.length by rw [← hsz]; exact hj]
  have hcmp : CmpReads Tryz.prog 80 #[] (fun x : { a : Nat // a ∈ s.A } => ep x.1) (fun x y => cmpI ((s.U x.1).block : Nat) ((s.U y.1).block : Nat)) g 0 d.size w := by
    intro m os dk _ x y
    obtain ⟨_, hbut⟩ := sortWorld_block (fun x : { a : Nat // a ∈ s.A } => ep x.1) w g m dk os hblk
    have cell : ∀ z : { a : Nat // a ∈ s.A }, (sortWorld (fun x : { a : Nat // a ∈ s.A } => ep x.1) w g 0 m dk os).cell? ⟨z.1, 0, none⟩ = some (.int .i64 ((s.U z.1).block : Nat)) := fun z => by
      obtain ⟨x0, hE⟩ := h.entAny z.2
      have hE' := hE.but hbut (fun e => apart_tags hE hblk (by decide) e)
      rw [cellOf hE' 0]; rfl
    exact cmp_entries x.1 y.1 _ _ _ (cell x) (cell y)
  have hlt : ltOf (fun x y : { a : Nat // a ∈ s.A } => cmpI ((s.U x.1).block : Nat) ((s.U y.1).block : Nat)) = fun x y => decide ((s.U x.1).block < (s.U y.1).block) := by
    funext x y
    exact ltOf_cmp (fun a => (s.U a).block) x.1 y.1
  have hO : SWO (ltOf (fun x y : { a : Nat // a ∈ s.A } => cmpI ((s.U x.1).block : Nat) ((s.U y.1).block : Nat))) := by
    rw [hlt]
    exact ⟨fun x => by simp, fun x y z h1 h2 => by simp at *; omega, fun x y z h1 h2 => by simp at *; omega⟩
  have hcon := Any.slices_SortFunc Tryz.sortE (fun x : { a : Nat // a ∈ s.A } => ep x.1) (fun _ => rfl) (fun x y => cmpI ((s.U x.1).block : Nat) ((s.U y.1).block : Nat)) hO 80 #[] g 0 s.dcap d w (enters_of Tryz.func80 (by kernel_rfl) rfl) hcmp.lays hH (Array.getElem?_eq_some_iff.1 hblk).1 (by omega)
  change Calls Tryz.prog 79 _ _ _ at hcon
  rw [hsz, ← hq.1] at hcon
  refine hcon.mono ?_
  rintro e w' ⟨rfl, d', n, os, hperm, _, rfl⟩
  obtain ⟨hb', hbut⟩ := sortWorld_block (fun x : { a : Nat // a ∈ s.A } => ep x.1) w g n d' os hblk
  have hsz' : d'.size = s.D.length := hperm.1.trans hsz
  have hp : (d'.toList.map (·.1)).Perm s.D := by
    rw [← hd]
    refine List.Perm.map _ ?_
    have := hperm.2.2
    have e1 : d'.extract 0 s.D.length = d' := by rw [← hsz']; simp
    have e2 : d.extract 0 s.D.length = d := by rw [← hsz]; simp
    rw [e1, e2] at this
    exact this
  have hlen : (d'.toList.map (·.1)).length = s.D.length := by simp [hsz']
  have gC : ¬ s.c = g := apart_tags h.hp.cell hblk (by decide)
  have gm : cMine w s.h g := .inr ⟨Nat.le_of_lt (h.lo.2.2.2 g (by rw [hq.1]; rfl)), _, _, _, hblk, .inr (.inl rfl)⟩
  have hib : ∀ k, s.ip.map Addr.block = some k → k ≠ g := fun k hk e => h.apart g (by rw [hq.1]; rfl) (e ▸ hk)
  refine ⟨rfl, d'.toList.map (·.1), hp, ⟨⟨?_, ?_, fun k hk => (h.hp.ents k hk).but hbut (apart_tags (h.hp.ents k hk) hblk (by decide)), h.hp.nodup, h.hp.len, h.hp.used⟩, fun a ha hi => (h.rest a ha hi).but hbut (apart_tags (h.rest a ha hi) hblk (by decide)), h.sub, h.hm.but hbut (h.hne hblk), ?_, h.apart, h.lo⟩, hbut.mono fun k _ hk => by rw [hk]; exact gm⟩
  · have : CS.ck { s with D := d'.toList.map (·.1) } = s.ck := by unfold CS.ck; simp only [hlen]
    rw [this]
    exact (hbut.block s.c (Array.getElem?_eq_some_iff.1 h.hp.cell).1 gC).trans h.hp.cell
  · refine own_but h.hp.row hbut (fun k cs fr hk _ => ?_)
    refine hib k ?_
    cases hqi : s.ip with
    | none => rw [hqi] at hk; simp [Value.ownBlock] at hk
    | some a' => rw [hqi] at hk; simpa [Value.ownBlock] using hk
  · refine ⟨by simp, .inr ⟨g, cap, Sort.putCells (fun x : { a : Nat // a ∈ s.A } => ep x.1) 0 d' cur, by rw [hq.1, hq.2, hlen], Nat.zero_le _, hb', by rw [hlen]; exact hcap, hcm, by unfold Sort.putCells; simpa using hcs, ?_⟩⟩
    rw [hlen, Nat.mul_one]
    rw [Nat.mul_one] at hcs
    refine List.ext_getElem? fun k => ?_
    rw [List.getElem?_take, List.getElem?_map, List.getElem?_map]
    by_cases hk : k < s.D.length
    · rw [if_pos hk]
      have hk' : k < d'.size := by omega
      have hkc : k < cur.size := by omega
      unfold Sort.putCells
      simp [hkc, hk']
    · rw [if_neg hk]
      have hk2 : d'.toList[k]? = none := List.getElem?_eq_none (by rw [Array.length_toList, hsz']; omega)
      rw [hk2]
      rfl

end Go.Proofs.YtphedokdckoccaaGreatDoor

/-
  Commit of package bcache, where something is dirty.
-/
namespace Go.Proofs.YtphedokdckoccaaGreatDoor
open Go.RowKit Go.Maps Go.Sort Go.Shelf

theorem laidOn_not (rs : Rec) (i : Nat) : ∀ st : Nat → Option By, (∀ p ∈ rs, p.1 ≠ i) → laidOn st rs i = st i := by
  induction rs with
  | nil => intro st _; rfl
  | cons p rs ih =>
    intro st h
    have e : laidOn st (p :: rs) = laidOn (fun j => if j = p.1 then some p.2 else st j) rs := rfl
    rw [e, ih _ (fun q hq => h q (by simp [hq]))]
    rw [if_neg (Ne.symm (h p (by simp)))]
theorem laidOn_yes (rs : Rec) (i : Nat) (d : By) : ∀ st : Nat → Option By, (∃ p ∈ rs, p.1 = i) → (∀ p ∈ rs, p.1 = i → p.2 = d) → laidOn st rs i = some d := by
  induction rs with
  | nil => intro st ⟨p, hp, _⟩; cases hp
  | cons p rs ih =>
    intro st h1 h2
    have e : laidOn st (p :: rs) = laidOn (fun j => if j = p.1 then some p.2 else st j) rs := rfl
    rw [e]
    by_cases hr : ∃ q ∈ rs, q.1 = i
    · exact ih _ hr (fun q hq => h2 q (by simp [hq]))
    · rw [laidOn_not rs i _ (fun q hq e => hr ⟨q, hq, e⟩)]
      obtain ⟨q, hq, hqi⟩ := h1
      rcases List.mem_cons.1 hq with rfl | hq
      · rw [if_pos hqi.symm, h2 q (by simp) hqi]
      · exact absurd ⟨q, hq, hqi⟩ hr

/-- The put of the j-th dirty block. -/
def dput (s : CS) (B : Nat → By) (j : Nat) : PutM := ⟨((s.U (s.D.getD j 0)).block : Nat), (s.U (s.D.getD j 0)).p, (s.U (s.D.getD j 0)).cp, B (s.D.getD j 0)⟩
theorem Tryz.infoPut : (Tryz.prog.info? 91).map (fun i => (i.zero, i.size, i.bytes)) = some (some (.agg #[.int .i64 0, .slice none 0 0]), 2, 32) := by kernel_rfl
theorem dputs_snoc (s : CS) (B : Nat → By) (i : Nat) : ((List.range (i + 1)).map fun j => putCells (dput s B j)).flatten = ((List.range i).map fun j => putCells (dput s B j)).flatten ++ putCells (dput s B i) := by
  rw [List.range_succ, List.map_append, List.flatten_append]
  simp
theorem cell_two_laid (w : World) (x y : Value) (t : TypeId) : ∀ j u, [x, y][j]? = some u → (w.alloc (.cells #[x, y] t)).cell? ((⟨w.heap.size, 0, none⟩ : Addr).add j) = some u := by
  intro j u hj
  rw [Addr.add_lit, Nat.zero_add, cellOf (heap_alloc_new w _) j]
  simpa using hj

/-- What is not dirty any more. -/
def clrU (U : Nat → EV) (l : List Nat) : Nat → EV := fun k => if k ∈ l then { U k with dirty := false } else U k
def AC.commit (A : AC) : AC := { A with L := A.L.map fun x => { x with dirty := false } }
/-- The volume's blocks behind a commit. -/
def AC.vol (A : AC) (V : Nat → By) (i : Nat) : By := ((A.L.find? fun x => x.dirty && x.block == i).map HE.data).getD (V i)

/-- What Commit makes of a cache and its volume. -/
structure Bct (w w' : World) (s s' : CS) (vs vs' : VS) (B : Nat → By) (b vb : Nat) : Prop where
  ci : CI w' s' vs' B
  cb : CB s' (b + 1)
  bud : Bud vs' (vb + 1)
  c : s'.c = s.c
  h : s'.h = s.h
  v : vs'.v = vs.v
  a : vs'.d.a = vs.d.a
  n : vs'.d.n = vs.d.n
  ac : acOf s' B = (acOf s B).commit
  vol : ∀ i, i < nbOf vs.d.n → vs'.cont i = (acOf s B).vol vs.cont i
  but : But (fun k => cMine w s.h k ∨ vs.mine k) w w'
  low : ∀ k, vs'.mine k → vs.mine k ∨ w.heap.size ≤ k

theorem CM.hpos {w : World} {s : CS} (h : CM w s) (ht : Tab w) : 0 < s.h := by
  rcases Nat.eq_zero_or_pos s.h with e | e
  · obtain ⟨es, clock, hm, _⟩ := h.hm.own
    rw [e] at hm
    have := ht 0 0 rfl
    simp [World.cell?, hm] at this
  · exact e

theorem step_low {w w' : World} {s s' : VS} (h : Step w w' s s') : ∀ k, s'.mine k → s.mine k ∨ w.heap.size ≤ k := by
  rintro k (e | e | e | e | e)
  · exact .inl (.inl (e.trans h.v))
  · rcases h.f with x | x
    · exact .inl (.inr (.inl (e.trans x)))
    · right; omega
  · exact .inl (.inr (.inr (.inl (e.trans h.near.a))))
  · exact .inl (.inr (.inr (.inr (.inl (e.trans h.near.s)))))
  · rcases h.near.m with x | x
    · exact .inl (.inr (.inr (.inr (.inr (e.trans x)))))
    · right; omega

theorem dirty_le {w : World} {s : CS} {vs : VS} {B : Nat → By} (h : CI w s vs B) : s.D.length ≤ nbOf vs.d.n := by
  have h1 : (s.D.map fun a => (s.U a).block).Nodup := by
    refine List.pairwise_map.2 (h.dnd.imp_of_mem fun {a b} ha hb hab e => hab (h.cm.hm.inj a ((h.dirty a).1 ha).1 b ((h.dirty b).1 hb).1 e))
  have := len_sub h1 (A := List.range (nbOf vs.d.n)) (fun k hk => by
    obtain ⟨a, ha, rfl⟩ := List.mem_map.1 hk
    exact List.mem_range.2 (h.blk a ((h.dirty a).1 ha).1))
  simpa using this

/-- What a volume's block is behind the commit of what is dirty. -/
theorem laid_dirty {w : World} {s : CS} {vs : VS} {B : Nat → By} (h : CI w s vs B) {D' : List Nat} (hp : D'.Perm s.D) (i : Nat) : (laidOn (fun _ => none) (recOf ((List.range s.D.length).map (dput { s with D := D' } B))) i).getD (vs.cont i) = (acOf s B).vol vs.cont i := by
  have hl : D'.length = s.D.length := hp.length_eq
  have hrec : ∀ p ∈ recOf ((List.range s.D.length).map (dput { s with D := D' } B)), ∃ a ∈ s.D, p = ((s.U a).block, B a) := fun p hpm => by
    unfold recOf at hpm
    rw [List.map_map] at hpm
    obtain ⟨j, hj, rfl⟩ := List.mem_map.1 hpm
    have hjl := List.mem_range.1 hj
    refine ⟨D'.getD j 0, hp.mem_iff.1 (getD_mem (by omega)), ?_⟩
    simp [dput]
  have hrec2 : ∀ a ∈ s.D, ((s.U a).block, B a) ∈ recOf ((List.range s.D.length).map (dput { s with D := D' } B)) := fun a ha => by
    obtain ⟨j, hj, e⟩ := List.getElem_of_mem (hp.mem_iff.2 ha)
    unfold recOf
    rw [List.map_map]
    refine List.mem_map.2 ⟨j, List.mem_range.2 (by omega), ?_⟩
    have e2 : D'.getD j 0 = a := by simp [List.getD, hj, e]
    simp only [Function.comp, dput, e2, Int.toNat_natCast]
  unfold AC.vol
  cases hf : (acOf s B).L.find? (fun x => x.dirty && x.block == i) with
  | none =>
    have hno := List.find?_eq_none.1 hf
    rw [laidOn_not _ _ _ (fun p hpm e => ?_)]
    · rfl
    · obtain ⟨a, ha, rfl⟩ := hrec p hpm
      obtain ⟨h1, h2⟩ := (h.dirty a).1 ha
      have := hno (heOf s.U B a) (List.mem_map.2 ⟨a, h1, rfl⟩)
      have e' : (s.U a).block = i := e
      simp [heOf, h2, e'] at this
  | some x =>
    have h1 := List.mem_of_find?_eq_some hf
    have h2 := List.find?_some hf
    obtain ⟨a, ha, rfl⟩ := List.mem_map.1 h1
    have h3 : (s.U a).dirty = true ∧ (s.U a).block = i := by simpa [heOf] using h2
    have haD := (h.dirty a).2 ⟨ha, h3.1⟩
    rw [laidOn_yes _ i (B a) _ ⟨_, hrec2 a haD, h3.2⟩ (fun p hpm e => ?_)]
    · rfl
    · obtain ⟨c, hc, rfl⟩ := hrec p hpm
      have e' : (s.U c).block = i := e
      have : c = a := h.cm.hm.inj c ((h.dirty c).1 hc).1 a ha (e'.trans h3.2.symm)
      rw [this]

/-- Behind the volume's commit the cache still holds. -/
theorem ci_committed {w w1 wr w6 : World} {s : CS} {vs vs6 : VS} {B : Nat → By} {D' : List Nat} (h : CI w s vs B) (hp : D'.Perm s.D) (cm1 : CM w1 { s with D := D' }) (hB1 : But (cMine w s.h) w w1) (hBr : Below w1.heap.size w1 wr) (h6 : VI w6 vs6) (hS : Step wr w6 vs vs6) (hcont : ∀ i, i < nbOf vs.d.n → vs6.cont i = (acOf s B).vol vs.cont i) :
    CI w6 { s with D := D' } vs6 B ∧ But (fun k => cMine w s.h k ∨ vs.mine k) w w6 := by
  have hvr : VI wr vs := (h.keep hB1).1.below hBr
  have cmr : CM wr { s with D := D' } := cm1.below hBr
  have bwr : But (cMine w s.h) w wr := hB1.after (But.of_below (S := fun _ => False) hBr) (fun _ _ h => h.elim)
  have datr : ∀ a ∈ s.A, DatAt wr (s.U a) (B a) := fun a ha => ((h.keep bwr).2 _ _ (h.dat a ha))
  have hh : ¬ vs.mine s.h := fun hm => by
    rcases hm with e | e | e | e | e
    · exact cmr.hne hvr.vol e
    · exact h.hf e
    · exact cmr.hne hvr.dev.dev e
    · obtain ⟨_, hr, _⟩ := hvr.dev.row
      exact cmr.hne hr e
    · exact h.hd e
  have hS1 : ∀ k cs t fr, wr.heap[k]? = some (.cells cs t fr) → cTag t → ¬ vs.mine k := fun k cs t fr hk ht => hvr.other hk (by rcases ht with rfl | rfl | rfl <;> decide) (by rcases ht with rfl | rfl | rfl <;> decide) (by rcases ht with rfl | rfl | rfl <;> decide)
  have hlt : s.h < wr.heap.size := cmr.hm.own.lt
  refine ⟨⟨cmr.but hS.but hh hS1, h6, h.vv.trans hS.v.symm, ?_, ?_, fun a ha => (datr a ha).but hS.but (fun k cs fr hk => hvr.other hk (by decide) (by decide) (by decide)), fun _ h => h.elim, h.ord, h.idle, fun a => ?_, (hp.nodup_iff).2 h.dnd, h.used, h.uinj, fun a ha => ?_, fun a ha hd => ?_, h.room⟩, ?_⟩
  · rcases hS.f with e | e
    · rw [e]; exact h.hf
    · show s.h ≠ vs6.f; omega
  · rcases hS.near.m with e | e
    · rw [e]; exact h.hd
    · show s.h ≠ vs6.d.m; omega
  · show a ∈ D' ↔ _
    rw [hp.mem_iff]; exact h.dirty a
  · rw [hS.n]; exact h.blk a ha
  · show B a = vs6.cont (s.U a).block
    have hd' : (s.U a).dirty = false := hd
    rw [hcont _ (h.blk a ha)]
    unfold AC.vol
    cases hf : (acOf s B).L.find? (fun x => x.dirty && x.block == (s.U a).block) with
    | none => exact h.clean a ha hd'
    | some x =>
      exfalso
      have h1 := List.mem_of_find?_eq_some hf
      have h2 := List.find?_some hf
      obtain ⟨c, hc, rfl⟩ := List.mem_map.1 h1
      have h3 : (s.U c).dirty = true ∧ (s.U c).block = (s.U a).block := by simpa [heOf] using h2
      rw [h.cm.hm.inj c hc a ha h3.2, hd'] at h3
      cases h3.1
  · exact (bwr.mono fun k _ hk => .inl hk).after hS.but (fun k _ hk => .inr hk)

theorem clrU_nil (U : Nat → EV) : clrU U [] = U := by funext k; simp [clrU]
theorem clrU_step (U : Nat → EV) (l : List Nat) (a : Nat) : updU (clrU U l) a { clrU U l a with dirty := false } = clrU U (l ++ [a]) := by
  funext k
  unfold updU clrU
  by_cases e : k = a
  · subst e
    by_cases hm : k ∈ l <;> simp [hm]
  · by_cases hm : k ∈ l <;> simp [hm, e]

/-- The first i of what was dirty are clean, and ranked. -/
def Clr (w6 W : World) (s : CS) (D' : List Nat) (i : Nat) : Prop :=
  ∃ ip icap I', CM W { s with D := D', ip := ip, icap := icap, I := I', U := clrU s.U (D'.take i) } ∧ HeapF (kvOf (keyU (clrU s.U (D'.take i))) I') I'.length ∧ (∀ b, b ∈ I' ↔ b ∈ s.A ∧ idleE (clrU s.U (D'.take i) b) = true) ∧ But (cMine w6 s.h) w6 W

theorem Clr.start {w6 : World} {s : CS} {vs : VS} {B : Nat → By} {D' : List Nat} (h : CI w6 { s with D := D' } vs B) : Clr w6 w6 s D' 0 := by
  refine ⟨s.ip, s.icap, s.I, ?_, ?_, ?_, But.refl _ _⟩
  · rw [List.take_zero, clrU_nil]; exact h.cm
  · rw [List.take_zero, clrU_nil]; exact h.ord (fun _ h => h)
  · rw [List.take_zero, clrU_nil]; exact fun b => h.idle b (fun h => h)

theorem clrU_block (U : Nat → EV) (l : List Nat) (k : Nat) : (clrU U l k).block = (U k).block ∧ (clrU U l k).used = (U k).used ∧ (clrU U l k).pins = (U k).pins ∧ (clrU U l k).p = (U k).p ∧ (clrU U l k).n = (U k).n ∧ (clrU U l k).cp = (U k).cp := by
  unfold clrU; split <;> exact ⟨rfl, rfl, rfl, rfl, rfl, rfl⟩

theorem Clr.step {w w6 W : World} {s : CS} {vs : VS} {B : Nat → By} {D' : List Nat} {i a : Nat} {ip : Option Addr} {icap : Nat} {I' : List Nat} (h : CI w s vs B) (hp : D'.Perm s.D) (_hc : Clr w6 W s D' i)
    (hc : ∃ ip' icap' I'', ip' = ip ∧ icap' = icap ∧ I'' = I' ∧ CM W { s with D := D', ip := ip, icap := icap, I := I', U := clrU s.U (D'.take i) } ∧ HeapF (kvOf (keyU (clrU s.U (D'.take i))) I') I'.length ∧ (∀ b, b ∈ I' ↔ b ∈ s.A ∧ idleE (clrU s.U (D'.take i) b) = true) ∧ But (cMine w6 s.h) w6 W) (ha : D'.getD i 0 = a) (hi : i < D'.length) :
    ∃ x, IsEnt W a (clrU s.U (D'.take i) a) x ∧ True ∧
      (Calls Tryz.prog 76 #[ep s.c, ep a] (W.setCell ⟨a, 3, none⟩ (.bool false)) fun e w' => e = .returned (.tuple #[]) ∧ ∃ s', Rk (W.setCell ⟨a, 3, none⟩ (.bool false)) w' { s with D := D', ip := ip, icap := icap, I := I', U := clrU s.U (D'.take (i + 1)) } s' a) ∧
      ∀ w' s', Rk (W.setCell ⟨a, 3, none⟩ (.bool false)) w' { s with D := D', ip := ip, icap := icap, I := I', U := clrU s.U (D'.take (i + 1)) } s' a → Clr w6 w' s D' (i + 1) := by
  obtain ⟨_, _, _, _, _, _, cm, ho, hid, hB⟩ := hc
  have hnd : D'.Nodup := hp.nodup_iff.2 h.dnd
  have haD : a ∈ s.D := hp.mem_iff.1 (by rw [← ha]; exact getD_mem hi)
  obtain ⟨haA, hdir⟩ := (h.dirty a).1 haD
  have hat : a ∉ D'.take i := fun hx => by
    obtain ⟨j, hj, e⟩ := List.getElem_of_mem hx
    have hj' : j < i := by simp at hj; omega
    have e2 : D'.getD j 0 = a := by rw [← e]; simp [List.getD, show j < D'.length by omega]
    have := getD_inj hnd (show j < D'.length by omega) hi (e2.trans ha.symm)
    omega
  have hUa : clrU s.U (D'.take i) a = s.U a := by unfold clrU; rw [if_neg hat]
  have haI : a ∉ I' := fun hx => by
    have h1 := ((hid a).1 hx).2
    rw [hUa] at h1
    unfold idleE at h1
    rw [hdir] at h1
    simp at h1
  have htk : D'.take (i + 1) = D'.take i ++ [a] := by
    rw [List.take_succ_eq_append_getElem hi]
    have : D'[i] = a := by rw [← ha]; simp [List.getD, hi]
    rw [this]
  have eU : updU (clrU s.U (D'.take i)) a { clrU s.U (D'.take i) a with dirty := false } = clrU s.U (D'.take (i + 1)) := by rw [htk]; exact clrU_step _ _ _
  obtain ⟨x, hE⟩ := cm.entAny (a := a) haA
  have cm2 := cm.setE (a := a) haA 3 (.bool false) { clrU s.U (D'.take i) a with dirty := false } (fun _ => rfl) rfl (cm.hp.used a)
  have cm3 : CM (W.setCell ⟨a, 3, none⟩ (.bool false)) { s with D := D', ip := ip, icap := icap, I := I', U := clrU s.U (D'.take (i + 1)) } := by rw [← eU]; exact cm2
  have hil : I'.length ≤ s.A.length := len_sub cm.hp.nodup cm.sub
  have hroom := h.room
  have ho2 : HeapF (kvOf (keyU (clrU s.U (D'.take (i + 1)))) I') I'.length := by
    rw [← eU]
    exact ho.less (Nat.le_refl _) fun j hj => kvOf_upd_not haI _ hj
  have cR := rank_any _ a _ cm3 haA (hx_of_ord ho2) (by show I'.length + 1 < 1000000; omega)
  have mE : cMine W s.h a := cm.mineE haA
  refine ⟨x, hE, trivial, cR, fun w' s' hR => ?_⟩
  obtain ⟨ip2, icap2, I2, rfl⟩ := hR.eq
  refine ⟨ip2, icap2, I2, hR.cm, hR.ord, fun b => ?_, cMine_trans (cMine_trans hB ((But.refl (cMine W s.h) W).setCell ⟨a, 3, none⟩ mE _)) hR.but⟩
  rw [show (b ∈ I2 ↔ _) from hR.mem b]
  show (b ∈ I' ∧ b ≠ a) ∨ (b = a ∧ idleE (clrU s.U (D'.take (i + 1)) a) = true) ↔ _
  by_cases e : b = a
  · subst e
    constructor
    · rintro (⟨_, h1⟩ | ⟨_, h1⟩)
      · exact absurd rfl h1
      · exact ⟨haA, h1⟩
    · rintro ⟨_, h1⟩; exact .inr ⟨rfl, h1⟩
  · have e2 : clrU s.U (D'.take (i + 1)) b = clrU s.U (D'.take i) b := by rw [← eU, updU_other _ _ e]
    rw [e2, ← hid b]
    constructor
    · rintro (⟨h1, _⟩ | ⟨h1, _⟩)
      · exact h1
      · exact absurd h1 e
    · intro h1; exact .inl ⟨h1, e⟩

theorem vol_dirty {w : World} {s : CS} {vs : VS} {B : Nat → By} (h : CI w s vs B) {a : Nat} (ha : a ∈ s.D) : B a = (acOf s B).vol vs.cont (s.U a).block := by
  obtain ⟨haA, hd⟩ := (h.dirty a).1 ha
  unfold AC.vol
  cases hf : (acOf s B).L.find? (fun x => x.dirty && x.block == (s.U a).block) with
  | none =>
    have := List.find?_eq_none.1 hf (heOf s.U B a) (List.mem_map.2 ⟨a, haA, rfl⟩)
    simp [heOf, hd] at this
  | some x =>
    have h1 := List.mem_of_find?_eq_some hf
    have h2 := List.find?_some hf
    obtain ⟨c, hc, rfl⟩ := List.mem_map.1 h1
    have h3 : (s.U c).dirty = true ∧ (s.U c).block = (s.U a).block := by simpa [heOf] using h2
    rw [h.cm.hm.inj c hc a haA h3.2]
    rfl

theorem cMine_back {w w6 : World} {h : Nat} {S : Nat → Prop} (hb : But (fun k => cMine w h k ∨ S k) w w6) {k : Nat} (hk : k < w.heap.size) (hm : cMine w6 h k) (hS : ¬ S k) : cMine w h k := by
  rcases hm with e | ⟨hle, cs, t, fr, hc, ht⟩
  · exact .inl e
  · apply Classical.byContradiction
    intro hn
    have := hb.block k hk (fun hx => hx.elim hn hS)
    rw [hc] at this
    exact hn (.inr ⟨hle, cs, t, fr, this.symm, ht⟩)

theorem Clr.done {w w6 W : World} {s : CS} {vs vs6 : VS} {B : Nat → By} {D' : List Nat} {b : Nat} (h : CI w s vs B) (hp : D'.Perm s.D) (h6 : CI w6 { s with D := D' } vs6 B) (hc : Clr w6 W s D' s.D.length) (hDl : D'.length = s.D.length) (hz : CB s b) :
    W.frozen? ⟨s.c, 3, none⟩ = false ∧ W.cell? ⟨s.c, 3, none⟩ = some (.slice s.dq s.D.length s.dcap) ∧
      ((∀ a ∈ s.D, vs6.cont (s.U a).block = B a) → ∃ s', CI (W.setCell ⟨s.c, 3, none⟩ (.slice none 0 0)) s' vs6 B ∧ CB s' (b + 1) ∧ s'.c = s.c ∧ s'.h = s.h ∧ acOf s' B = (acOf s B).commit ∧ But (cMine w6 s.h) w6 (W.setCell ⟨s.c, 3, none⟩ (.slice none 0 0))) := by
  obtain ⟨ip, icap, I', cm, ho, hid, hB⟩ := hc
  have htk : D'.take s.D.length = D' := by rw [← hDl, List.take_length]
  rw [htk] at cm ho hid
  refine ⟨frozenOf cm.hp.cell 3, by rw [cellOf cm.hp.cell 3, ← hDl]; rfl, fun hcl => ?_⟩
  have cm2 := cm_clean cm
  have hB2 : But (cMine w6 s.h) w6 (W.setCell ⟨s.c, 3, none⟩ (.slice none 0 0)) := cMine_trans hB ((But.refl (cMine W s.h) W).setCell _ cm.mineC _)
  obtain ⟨hvi, hkeep⟩ := h6.keep hB2
  have hdir : ∀ a ∈ s.A, (clrU s.U D' a).dirty = false := fun a ha => by
    unfold clrU
    split
    · rfl
    · rename_i hx
      cases hd : (s.U a).dirty with
      | false => rfl
      | true => exact absurd (hp.mem_iff.2 ((h.dirty a).2 ⟨ha, hd⟩)) hx
  refine ⟨{ s with D := [], dq := none, dcap := 0, ip := ip, icap := icap, I := I', U := clrU s.U D' }, ⟨cm2, hvi, h6.vv, h6.hf, h6.hd, fun a ha => ?_, fun _ h => h.elim, fun _ => ho, fun a _ => hid a, fun a => ?_, List.nodup_nil, fun a ha _ => ?_, fun a ha c hc _ _ e => ?_, fun a ha => ?_, fun a ha _ => ?_, h.room⟩, ⟨by have := hz.nh; show s.nh ≤ _; omega, by have := hz.uses; show s.uses ≤ _; omega, by have := hz.met; show s.met ≤ _; omega, by have := hz.missed; show s.missed ≤ _; omega, by have := hz.out; show s.out ≤ _; omega⟩, rfl, rfl, ?_, hB2⟩
  · obtain ⟨q1, q2, q3, g, q4, q5, q6⟩ := hkeep _ _ (h6.dat a ha)
    obtain ⟨_, _, _, r1, r2, r3⟩ := clrU_block s.U D' a
    exact ⟨by show (clrU s.U D' a).n = 512; rw [r2]; exact q1, q2, by show 512 ≤ (clrU s.U D' a).cp; rw [r3]; exact q3, g, by show (clrU s.U D' a).p = _; rw [r1]; exact q4, q5, q6⟩
  · show a ∈ [] ↔ a ∈ s.A ∧ (clrU s.U D' a).dirty = true
    constructor
    · intro hx; cases hx
    · rintro ⟨h1, h2⟩; rw [hdir a h1] at h2; cases h2
  · show (clrU s.U D' a).used ≤ s.uses
    rw [(clrU_block s.U D' a).2.1]; exact h.used a ha (fun h => h)
  · have e' : (clrU s.U D' a).used = (clrU s.U D' c).used := e
    rw [(clrU_block s.U D' a).2.1, (clrU_block s.U D' c).2.1] at e'
    exact h.uinj a ha c hc (fun h => h) (fun h => h) e'
  · show (clrU s.U D' a).block < _
    rw [(clrU_block s.U D' a).1]; exact h6.blk a ha
  · show B a = vs6.cont (clrU s.U D' a).block
    rw [(clrU_block s.U D' a).1]
    cases hd : (s.U a).dirty with
    | false => exact h6.clean a ha hd
    | true => exact (hcl a ((h.dirty a).2 ⟨ha, hd⟩)).symm
  · unfold acOf AC.commit
    simp only [List.map_map]
    congr 1
    refine List.map_congr_left fun a ha => ?_
    show heOf (clrU s.U D') B a = { heOf s.U B a with dirty := false }
    unfold heOf
    rw [hdir a ha, (clrU_block s.U D' a).1, (clrU_block s.U D' a).2.1, (clrU_block s.U D' a).2.2.1]

set_option maxRecDepth 8000 in
set_option maxHeartbeats 4000000 in
theorem commit_some (s : CS) (vs : VS) (B : Nat → By) (b vb : Nat) (w : World) (h : CI w s vs B) (ht : Tab w) (hz : CB s b) (hvz : Bud vs vb) (hvb : vb ≤ 900) (hne : 0 < s.D.length) :
    Calls Tryz.prog 33 #[ep s.c] w fun e w' => e = .returned (.int .i64 0) ∧ ∃ s' vs', Bct w w' s s' vs vs' B b vb := by
  have hdl := dlen h
  obtain ⟨gd, hq0, _⟩ := drop_cell h.cm hne
  have c3 : w.cell? ⟨s.c, 3, none⟩ = some (.slice (some ⟨gd, 0, none⟩) s.D.length s.dcap) := by rw [← hq0, cellOf h.cm.hp.cell 3]; rfl
  have cS : Calls Tryz.prog 79 #[.slice (some ⟨gd, 0, none⟩) s.D.length s.dcap, .func (.func 80) #[] #[]] w fun e w' => e = .returned (.tuple #[]) ∧ ∃ D', Hid (D'.Perm s.D ∧ CM w' { s with D := D' } ∧ But (cMine w s.h) w w') := by
    rw [← hq0]
    exact (sort_dirty s w h.cm hne (fun a ha => ((h.dirty a).1 ha).1) (by omega)).mono fun e w' ⟨h1, D', h2⟩ => ⟨h1, D', h2⟩
  obtain ⟨k0, hk0, hx0, hx1, hx2⟩ := info_parts Tryz.infoPut
  have H0 : Hid (CI w s vs B ∧ Tab w ∧ s.dq = some ⟨gd, 0, none⟩) := ⟨h, ht, hq0⟩
  clear h ht hq0
  go_enter Tryz.func33, Tryz.ntmps33
  go_wp2_with (go_at_call 79; refine cS.mono ?_; rintro e w1 ⟨rfl, D', H1⟩; clear cS; refine Stop.out ?_)
  refine Stop.mk ?_
  have hDl : D'.length = s.D.length := H1.out.1.length_eq
  have d3 : w1.cell? ⟨s.c, 3, none⟩ = some (.slice (some ⟨gd, 0, none⟩) s.D.length s.dcap) := by rw [cellOf H1.out.2.1.hp.cell 3, ← hDl, ← H0.out.2.2]; rfl
  go_wp2_with (at_make; refine wpList_make_own _ rfl _ _ 92 rfl w1.heap.size 91 k0 (.agg #[.int .i64 0, .slice none 0 0]) 2 Tryz.underlying92 hk0 hx0 hx1 .i64 .i64 _ s.D.length rfl rfl (by go_num) (by rw [hx2]; omega) (by unfold maxLen; omega) (Nat.le_refl _) ?_; intro w2 hrow2 hg2; refine Stop.out ?_)
  refine Stop.mk ?_
  have hB2 : Below w1.heap.size w1 w2 := (Below.refl _ w1).grown hg2 (Nat.le_refl _) (by simp)
  have e3 : w2.cell? ⟨s.c, 3, none⟩ = some (.slice (some ⟨gd, 0, none⟩) s.D.length s.dcap) := (hB2.cell (p := ⟨s.c, 3, none⟩) (World.block_lt_of_cell? w1 _ d3)).trans d3
  have HI0 : Hid (w2.ownsRow w1.heap.size 91 2 (.slice (some ⟨w1.heap.size, 0, none⟩) 0 s.D.length) 0 (((List.range 0).map fun j => putCells (dput { s with D := D' } B j)).flatten) ∧ Below w1.heap.size w1 w2) := ⟨hrow2, hB2⟩
  clear hrow2 hg2 hB2
  go_wp2_with fail
  go_loopw [3, 27] (fun lv ii wr => ∃ i : Nat, i ≤ s.D.length ∧ ii = .int .i64 i ∧ Hid (wr.ownsRow w1.heap.size 91 2 lv i (((List.range i).map fun j => putCells (dput { s with D := D' } B j)).flatten) ∧ Below w1.heap.size w1 wr)) (fun _ ii _ => s.D.length - (intOf ii).toNat)
  case atStart => exact ⟨0, Nat.zero_le _, rfl, HI0⟩
  case round =>
    clear HI0 e3 d3 c3
    obtain ⟨i, hi, rfl, HI⟩ := hrel
    obtain ⟨p3, l3, c3', h3⟩ : ∃ p l c, u3 = Value.slice p l c := by
      rcases HI.out.1.2 with ⟨e, _⟩ | ⟨g, cap, cur, e, _⟩ <;> exact ⟨_, _, _, e⟩
    subst h3
    by_cases hlt : i < s.D.length
    · have hltI : (i : Int) < (s.D.length : Nat) := by omega
      have cmr : CM wr { s with D := D' } := H1.out.2.1.below HI.out.2
      obtain ⟨g, hq, hg⟩ := drop_cell cmr (k := i) (by show i < D'.length; omega)
      obtain rfl : g = gd := by
        have e1 : s.dq = some ⟨g, 0, none⟩ := hq
        rw [H0.out.2.2] at e1
        injection e1 with e1
        injection e1 with e1
        exact e1.symm
      obtain ⟨a, ha⟩ : ∃ a, D'.getD i 0 = a := ⟨_, rfl⟩
      have hg' : wr.cell? ⟨g, i, none⟩ = some (ep a) := by rw [← ha]; exact hg
      have haA : a ∈ s.A := by
        have : a ∈ D' := by rw [← ha]; exact getD_mem (by omega)
        exact ((H0.out.1.dirty a).1 (H1.out.1.mem_iff.1 this)).1
      obtain ⟨x, hE⟩ := cmr.entAny (a := a) haA
      have d0 : wr.cell? ⟨a, 0, none⟩ = some (.int .i64 ((s.U a).block : Nat)) := by rw [cellOf hE 0]; rfl
      obtain ⟨hn5, hl5, hcp5, g5, hp5, _, _⟩ := H0.out.1.dat a haA
      have d1 : wr.cell? ⟨a, 1, none⟩ = some (.slice (some ⟨g5, 0, none⟩) 512 (s.U a).cp) := by
        rw [cellOf hE 1, ← hp5]
        show some (Value.slice (s.U a).p (s.U a).n (s.U a).cp) = _
        rw [hn5]
      have hown := own_belowT HI.out.1 ((Below.refl wr.heap.size wr).alloc (Nat.le_refl _) (.cells #[Value.int .i64 ((s.U a).block : Nat), Value.slice (some ⟨g5, 0, none⟩) 512 (s.U a).cp] 91))
      have hownD : ((wr.alloc (.cells #[Value.int .i64 ((s.U a).block : Nat), Value.slice (some ⟨g5, 0, none⟩) 512 (s.U a).cp] 91)).drew).ownsRow w1.heap.size 91 2 (.slice p3 l3 c3') i (((List.range i).map fun j => putCells (dput { s with D := D' } B j)).flatten) := hown
      have hap : putCells (dput { s with D := D' } B i) = [Value.int .i64 ((s.U a).block : Nat), Value.slice (some ⟨g5, 0, none⟩) 512 (s.U a).cp] := by
        unfold putCells dput
        simp only [ha, hp5, hl5]
      have halt : a < w1.heap.size := H1.out.2.1.alt haA
      have hrl := HI.out.2.size
      have ag : (Value.slice p3 l3 c3').ownBlock ≠ some a := fun e => by
        rcases HI.out.1.2 with ⟨e', _⟩ | ⟨g', cap', cur, e', hgb, _⟩
        · rw [e'] at e; simp [Value.ownBlock] at e
        · rw [e'] at e; simp [Value.ownBlock] at e; omega
      have HO : Hid (((wr.alloc (.cells #[Value.int .i64 ((s.U a).block : Nat), Value.slice (some ⟨g5, 0, none⟩) 512 (s.U a).cp] 91)).drew).ownsRow w1.heap.size 91 2 (.slice p3 l3 c3') i (((List.range i).map fun j => putCells (dput { s with D := D' } B j)).flatten) ∧ putCells (dput { s with D := D' } B i) = [Value.int .i64 ((s.U a).block : Nat), Value.slice (some ⟨g5, 0, none⟩) 512 (s.U a).cp]) := ⟨hownD, hap⟩
      clear hq hg ha haA hE hn5 hl5 hcp5 hp5 hown hownD hap cmr
      generalize (s.U a).block = blk at *
      generalize (s.U a).cp = cp5 at *
      go_wp2_with fail
      go_region_held3 (fun w' => w'.cell? ⟨a, 0, none⟩ = some (.int .i64 (blk : Nat)) ∧ w'.cell? ⟨a, 1, none⟩ = some (.slice (some ⟨g5, 0, none⟩) 512 cp5))
        (first
          | go_keep
          | (go_split_ands
             refine ⟨?_, ?_⟩
             · (rw [hgrow.cell_far _ (by simp; omega) (Ne.symm ag)]; assumption)
             · (rw [hgrow.cell_far _ (by simp; omega) (Ne.symm ag)]; assumption)))
        ((refine step_append_lies _ (by rfl) _ _ _ (by rfl) w1.heap.size 91 k0 (.agg #[.int .i64 0, .slice none 0 0]) 2 32 Tryz.underlying92 hk0 hx0 hx1 hx2 rfl (by omega) (.slice p3 l3 c3') i _ (by rfl) HO.out.1
            ⟨wr.heap.size, 0, none⟩ 1 1 [.int .i64 (blk : Nat), .slice (some ⟨g5, 0, none⟩) 512 cp5] (by rfl) (by rfl) (World.news_of_block (cs := #[.int .i64 (blk : Nat), .slice (some ⟨g5, 0, none⟩) 512 cp5]) (t := 91) (fr := (0, 0)) (heap_alloc_new wr _)) (by simp [Value.oneCell'])
            (by omega) (by unfold maxLen; omega) (by omega) (by simp; omega) (wr.heap.size + 1) (by simp) ?_; intro gg cap w4 hown4 hgrow hat hlt4))
      have H4 : Hid (w4.ownsRow w1.heap.size 91 2 (.slice (some ⟨gg, 0, none⟩) (i + 1) cap) (i + 1) (((List.range (i + 1)).map fun j => putCells (dput { s with D := D' } B j)).flatten) ∧ Below w1.heap.size w1 w4) := by
        refine ⟨by rw [dputs_snoc, HO.out.2]; exact hown4, ?_⟩
        have b1 : Below w1.heap.size w1 ((wr.alloc (.cells #[Value.int .i64 (blk : Nat), Value.slice (some ⟨g5, 0, none⟩) 512 cp5] 91)).drew) := (HI.out.2.alloc HI.out.2.size _).drew
        refine b1.grown hgrow (by have := HI.out.2.size; simp; omega) (fun k e => ?_)
        rcases HI.out.1.2 with ⟨e', _⟩ | ⟨g', cap', cur, e', hgb, _⟩
        · rw [e'] at e; simp [Value.ownBlock] at e
        · rw [e'] at e; simp [Value.ownBlock] at e; omega
      clear hown4 hgrow hat hlt4
      go_wp2
      go_roundw
      case rel => exact ⟨i + 1, by omega, by go_num, H4⟩
      case measure => simp [intOf]; omega
    · obtain rfl : i = s.D.length := by omega
      have hge : ¬ ((s.D.length : Nat) : Int) < (s.D.length : Nat) := by omega
      have h := H0.out.1
      have hvr : VI wr vs := (h.keep H1.out.2.2).1.below HI.out.2
      have cmr : CM wr { s with D := D' } := H1.out.2.1.below HI.out.2
      have bwr : But (cMine w s.h) w wr := H1.out.2.2.after (But.of_below (S := fun _ => False) HI.out.2) (fun _ _ h => h.elim)
      obtain ⟨p, c, elv, hps⟩ := puts_of_own HI.out.1 hne (fun k hk => by
        have hkD : D'.getD k 0 ∈ s.D := H1.out.1.mem_iff.1 (getD_mem (by omega))
        have hkA := ((h.dirty _).1 hkD).1
        obtain ⟨q1, q2, q3, g, q4, q5, q6⟩ := (h.keep bwr).2 _ _ (h.dat _ hkA)
        refine ⟨by show (B (D'.getD k 0)).length ≤ (s.U (D'.getD k 0)).cp; omega, by show Bytes wr (s.U (D'.getD k 0)).p (B (D'.getD k 0)); rw [q4]; exact q5, fun b' o e => ?_⟩
        have e' : (s.U (D'.getD k 0)).p = some ⟨b', o, none⟩ := e
        rw [q4] at e'
        injection e' with e'
        injection e' with e1 e2 e3
        rw [← e1]; exact q6)
      obtain ⟨rfl, rfl, rfl⟩ : p3 = p ∧ l3 = s.D.length ∧ c3' = c := by injection elv with e1 e2 e3; exact ⟨e1, e2, e3⟩
      have hdn := dirty_le h
      have hnb := h.nb
      have hBt : Below s.h w wr := bwr.below (Nat.le_of_lt h.cm.hm.own.lt) (fun k hk => by rcases hk with e | ⟨e, _⟩ <;> omega)
      have htr : Tab wr := below_tab hBt (h.cm.hpos H0.out.2.1) H0.out.2.1
      have cC := vCommit_any p3 ((List.range s.D.length).map (dput { s with D := D' } B)) c3' vs vb wr hvr htr hvz (by omega) hps (by
        rw [List.all_eq_true]
        intro x hx
        obtain ⟨j, hj, rfl⟩ := List.mem_map.1 hx
        have hjl := List.mem_range.1 hj
        have hkD : D'.getD j 0 ∈ s.D := H1.out.1.mem_iff.1 (getD_mem (by omega))
        have hkA := ((h.dirty _).1 hkD).1
        have hb1 := h.blk _ hkA
        have hb2 := (h.dat _ hkA).2.1
        simp [goodPut, dput]
        exact ⟨by simpa [List.getD] using hb1, by simpa [List.getD] using hb2⟩) (by simp; omega) (by simp; omega)
      rw [List.length_map, List.length_range] at cC
      have d0 : wr.cell? ⟨s.c, 0, none⟩ = some (dp vs.v) := by rw [cellOf cmr.hp.cell 0, ← h.vv]; rfl
      clear h hvr cmr bwr hps elv hdn hBt htr
      go_wp2_with (go_at_call 54; refine cC.mono ?_; rintro e w6 ⟨rfl, vs6, hI6, hS6, hz6, hc6, hcont6⟩; clear cC; refine Stop.out ?_)
      refine Stop.mk ?_
      have hcont : ∀ i, i < nbOf vs.d.n → vs6.cont i = (acOf s B).vol vs.cont i := fun i hi => by rw [hcont6 i hi]; exact laid_dirty H0.out.1 H1.out.1 i
      obtain ⟨ci6, hB6⟩ := ci_committed H0.out.1 H1.out.1 H1.out.2.1 H1.out.2.2 HI.out.2 hI6 hS6 hcont
      have k3 : w6.cell? ⟨s.c, 3, none⟩ = some (.slice (some ⟨gd, 0, none⟩) s.D.length s.dcap) := by rw [cellOf ci6.cm.hp.cell 3, ← hDl, ← H0.out.2.2]; rfl
      have hlow : ∀ k, vs6.mine k → vs.mine k ∨ w.heap.size ≤ k := fun k hk => by
        rcases step_low hS6 k hk with e | e
        · exact .inl e
        · right
          have h1 := H1.out.2.2.size
          have h2 := HI.out.2.size
          omega
      have H6 : Hid (CI w6 { s with D := D' } vs6 B ∧ But (fun k => cMine w s.h k ∨ vs.mine k) w w6 ∧ (∀ k, vs6.mine k → vs.mine k ∨ w.heap.size ≤ k) ∧ Bud vs6 (vb + 1) ∧ vs6.v = vs.v ∧ vs6.d.a = vs.d.a ∧ vs6.d.n = vs.d.n ∧ ∀ i, i < nbOf vs.d.n → vs6.cont i = (acOf s B).vol vs.cont i) := ⟨ci6, hB6, hlow, hz6, hS6.v, hS6.near.a, hS6.n, hcont⟩
      clear ci6 hB6 hlow hz6 hS6 hcont hI6 hc6 hcont6 HI
      go_wp2_with fail
      go_loopw [58] (fun ii W => ∃ i : Nat, i ≤ s.D.length ∧ ii = .int .i64 i ∧ Hid (Clr w6 W s D' i)) (fun ii _ => s.D.length - (intOf ii).toNat)
      case atStart => exact ⟨0, Nat.zero_le _, rfl, Clr.start H6.out.1⟩
      case round =>
        clear k3 d0
        obtain ⟨i, hi, rfl, HC⟩ := hrel
        generalize wr = W at *
        by_cases hlt : i < s.D.length
        · have hltI : (i : Int) < (s.D.length : Nat) := by omega
          obtain ⟨ip, icap, I', cm, ho, hid, hB⟩ := HC.out
          obtain ⟨g, hq, hg⟩ := drop_cell cm (k := i) (by show i < D'.length; omega)
          obtain rfl : g = gd := by
            have e1 : s.dq = some ⟨g, 0, none⟩ := hq
            rw [H0.out.2.2] at e1
            injection e1 with e1
            injection e1 with e1
            exact e1.symm
          obtain ⟨a, ha⟩ : ∃ a, D'.getD i 0 = a := ⟨_, rfl⟩
          have hg' : W.cell? ⟨g, i, none⟩ = some (ep a) := by rw [← ha]; exact hg
          obtain ⟨x, hE, _, cR, hfin⟩ := Clr.step H0.out.1 H1.out.1 HC.out ⟨ip, icap, I', rfl, rfl, rfl, cm, ho, hid, hB⟩ ha (by omega)
          have d3 : W.cell? ⟨a, 3, none⟩ = some (.bool (clrU s.U (D'.take i) a).dirty) := by rw [cellOf hE 3]; rfl
          have f3 := frozenOf hE 3
          have HF : Hid (∀ w' s', Rk (W.setCell ⟨a, 3, none⟩ (.bool false)) w' { s with D := D', ip := ip, icap := icap, I := I', U := clrU s.U (D'.take (i + 1)) } s' a → Clr w6 w' s D' (i + 1)) := hfin
          clear cm ho hid hB hq hg ha hE hfin HC
          generalize (clrU s.U (D'.take i) a).dirty = dd at *
          go_wp2_with (go_at_call 76; refine cR.mono ?_; rintro e W2 ⟨rfl, s2, hR2⟩; clear cR)
          have H7 : Hid (Clr w6 W2 s D' (i + 1)) := HF.out W2 s2 hR2
          clear hR2
          go_roundw
          case rel => exact ⟨i + 1, by omega, by go_num, H7⟩
          case measure => simp [intOf]; omega
        · obtain rfl : i = s.D.length := by omega
          have hge2 : ¬ ((s.D.length : Nat) : Int) < (s.D.length : Nat) := by omega
          obtain ⟨f3, hcell, hall⟩ := Clr.done H0.out.1 H1.out.1 H6.out.1 HC.out hDl hz
          have k3 : W.cell? ⟨s.c, 3, none⟩ = some (.slice (some ⟨gd, 0, none⟩) s.D.length s.dcap) := by rw [← H0.out.2.2]; exact hcell
          obtain ⟨s', hfin⟩ := hall (fun a ha => by
            have hd := (H0.out.1.dirty a).1 ha
            rw [H6.out.2.2.2.2.2.2.2 _ (H0.out.1.blk a hd.1)]
            exact (vol_dirty H0.out.1 ha).symm)
          have HF : Hid (CI (W.setCell ⟨s.c, 3, none⟩ (.slice none 0 0)) s' vs6 B ∧ CB s' (b + 1) ∧ s'.c = s.c ∧ s'.h = s.h ∧ acOf s' B = (acOf s B).commit ∧ But (cMine w6 s.h) w6 (W.setCell ⟨s.c, 3, none⟩ (.slice none 0 0))) := hfin
          clear hcell hall hfin HC
          go_wp2
          go_ret
          obtain ⟨q1, q2, q3, q4, q5, q6⟩ := HF.out
          obtain ⟨r1, r2, r3, r4, r5, r6, r7, r8⟩ := H6.out
          exact ⟨rfl, s', vs6, q1, q2, r4, q3, q4, r5, r6, r7, q5, r8, r2.after q6 (fun k hk hm => (Classical.em (vs.mine k)).elim .inr (fun hn => .inl (cMine_back r2 hk hm hn))), r3⟩

end Go.Proofs.YtphedokdckoccaaGreatDoor

namespace Go.Proofs.YtphedokdckoccaaGreatDoor
open Go.RowKit Go.Maps Go.Sort Go.Shelf

set_option maxRecDepth 8000 in
set_option maxHeartbeats 2000000 in
theorem volume_any (blocks : Nat) (w : World) (ht : Tab w) (h2 : 2 ≤ blocks) (h12 : blocks ≤ 48) :
    Calls Tryz.prog 22 #[.int .i64 (blocks : Nat)] w fun e w' => ∃ vs : VS, e = .returned (dp vs.v) ∧ VI w' vs ∧ Bud vs 1 ∧ nbOf vs.d.n = blocks ∧ (∀ i, i < blocks → vs.cont i = zeroB) ∧ Below w.heap.size w w' ∧ ∀ k, vs.mine k → w.heap.size ≤ k := by
  obtain ⟨n, hn⟩ : ∃ n, n = 4 * blocks + 8 := ⟨_, rfl⟩
  have e1 : (4 : Int) * (blocks : Nat) + 8 = (n : Nat) := by omega
  have h16 : 16 ≤ n := by omega
  have h200 : n ≤ 200 := by omega
  have hnbn : nbOf n = blocks := by unfold nbOf; omega
  have c21 := dev_new n w (by omega) (by omega)
  have HT : Hid (Tab w ∧ nbOf n = blocks) := ⟨ht, hnbn⟩
  clear ht hn hnbn
  go_enter Tryz.func22, Tryz.ntmps22
  go_wp2_with (go_at_call 52; refine c21.mono ?_; rintro e w1 ⟨a, s0, c0, m0, rfl, hd1, hB1, ha1, hs1, hm1⟩; clear c21; refine Stop.out ?_)
  refine Stop.mk ?_
  have ht1 : Tab w1 := below_tab hB1 HT.out.1.lt HT.out.1
  have cF := format_ok (newDS a s0 c0 m0 n) w1 hd1 ht1 h16 (fun i _ => rfl) (fun h => by cases h) (by simp [newDS])
  have H1 : Hid (Dev w1 (newDS a s0 c0 m0 n) ∧ Tab w1 ∧ Below w.heap.size w w1 ∧ ∀ k, (newDS a s0 c0 m0 n).mine k → w.heap.size ≤ k) := ⟨hd1, ht1, hB1, by rintro k (rfl | rfl | rfl); exact ha1; exact hs1; exact hm1⟩
  clear hd1 hB1 ha1 hs1 hm1 ht1
  go_wp2_with (go_at_call 53; refine cF.mono ?_; rintro e w2 ⟨d2, rfl, hb2, hn2, hd2, hdn2, hD2, hB2, hcn2, hfu2⟩; clear cF; refine Stop.out ?_)
  refine Stop.mk ?_
  obtain ⟨hd1, ht1, hB1, lo1⟩ := H1.out
  have ht2 : Tab w2 := hb2.tab ht1 (hd1.noTab ht1)
  have ea2 : d2.a = a := hn2.a
  have en2 : d2.n = n := hdn2
  have hb0 : d2.B 0 = headB 1 0 n := by rw [hB2]; simp [upd, newDS]
  have hzz : ∀ i, 0 < i → i < n → d2.B i = zeroB := fun i h0 _ => by
    rw [hB2]
    have : i ≠ 0 := by omega
    simp [upd, this, newDS]
  have cM := mount_ok [] 1 0 d2 w2 hd2 ht2 (by omega) (by unfold DS.dead; rw [show d2.fused = false from hfu2]; rfl) hD2 (by rw [hb0, en2]) (by omega) (by omega) (by
    refine ⟨by unfold nbOf; omega, fun hlt => ?_⟩
    rw [hzz _ (by omega) (by omega)]
    exact oldB_zero _)
  rw [ea2] at cM
  have B2 : Below w.heap.size w w2 := hB1.trans (hb2.below hB1.size lo1)
  have lo2 : ∀ k, d2.mine k → w.heap.size ≤ k := by
    rintro k (e | e | e)
    · exact lo1 k (.inl (e.trans hn2.a))
    · exact lo1 k (.inr (.inl (e.trans hn2.s)))
    · rcases hn2.m with x | x
      · exact lo1 k (.inr (.inr (e.trans x)))
      · have := hB1.size; omega
  have H2 : Hid (Dev w2 d2 ∧ Below w.heap.size w w2 ∧ (∀ k, d2.mine k → w.heap.size ≤ k) ∧ d2.B 0 = headB 1 0 n ∧ (∀ i, 0 < i → i < n → d2.B i = zeroB) ∧ d2.D = .map [] ∧ d2.count = 4 ∧ d2.fused = false ∧ d2.n = n) := ⟨hd2, B2, lo2, hb0, hzz, hD2, hcn2, hfu2, en2⟩
  clear hd1 ht1 hB1 lo1 ht2 hb0 hzz B2 lo2 hd2 hb2 hn2 hD2 hB2 hcn2 hfu2 H1 hdn2 en2
  go_wp2_with (go_at_call 19; refine cM.mono ?_; rintro e w3 ⟨v, f, rfl, hM⟩; clear cM)
  go_ret
  obtain ⟨hd2, B2, lo2, hb0, hzz, hD2, hcn2, hfu2, en2⟩ := H2.out
  obtain ⟨F, hF⟩ := hM.fr
  have B3 : Below w.heap.size w w3 := B2.trans (hM.below.mono B2.size)
  have hfm : f ≠ d2.m := by have h1 := hM.flt; have h2 := hd2.mlt; omega
  have hvlt := hM.vlt
  have hflt := hM.flt
  have hs2 := B2.size
  refine ⟨⟨v, f, 0, 0, 1, d2.n, F, fun _ => none, d2, []⟩, rfl, ⟨hM.vol, hd2.below hM.below, hF, hfm, hfu2, by show 16 ≤ d2.n; omega, by show d2.n ≤ 200; omega, zero_log v f 0 n F d2 en2 h16 hb0 hzz⟩, ⟨Nat.zero_le _, ?_, Nat.zero_le _, Nat.le_succ 1⟩, ?_, fun i hi => ?_, B3, ?_⟩
  · show d2.count ≤ 1 * 1000
    omega
  · show nbOf d2.n = blocks
    rw [en2]; exact HT.out.2
  · show d2.B (1 + i) = zeroB
    have hnb := HT.out.2
    exact hzz _ (by omega) (by unfold nbOf at hnb; omega)
  · rintro k (e | e | hm)
    · have e' : k = v := e
      omega
    · have e' : k = f := e
      omega
    · exact lo2 k hm

/-- A cache and its volume that the law has made. -/
structure LW (w0 w : World) (s : CS) (vs : VS) (B : Nat → By) (b vb : Nat) : Prop where
  ci : CI w s vs B
  cb : CB s b
  bud : Bud vs vb
  below : Below w0.heap.size w0 w
  lo : w0.heap.size ≤ s.h
  vlo : ∀ k, vs.mine k → w0.heap.size ≤ k

theorem LW.cst {w0 w w' : World} {s s' : CS} {vs : VS} {B B' : Nat → By} {b vb : Nat} (h : LW w0 w s vs B b vb) (hc : Cst w w' s s' vs B' b) : LW w0 w' s' vs B' (b + 1) vb :=
  ⟨hc.ci, hc.cb, h.bud, h.below.trans (hc.but.below h.below.size (fun k hk => by have := h.lo; rcases hk with e | ⟨e, _⟩ <;> omega)), by rw [hc.h]; exact h.lo, h.vlo⟩
theorem LW.by {w0 w w' : World} {s : CS} {vs : VS} {B : Nat → By} {b vb : Nat} (h : LW w0 w s vs B b vb) (hb : Below w.heap.size w w') : LW w0 w' s vs B b vb :=
  ⟨h.ci.below hb, h.cb, h.bud, h.below.trans (hb.mono h.below.size), h.lo, h.vlo⟩
theorem LW.bct {w0 w w' : World} {s s' : CS} {vs vs' : VS} {B : Nat → By} {b vb : Nat} (h : LW w0 w s vs B b vb) (hc : Bct w w' s s' vs vs' B b vb) : LW w0 w' s' vs' B (b + 1) (vb + 1) :=
  ⟨hc.ci, hc.cb, hc.bud, h.below.trans (hc.but.below h.below.size (fun k hk => by
    have := h.lo
    rcases hk with (e | ⟨e, _⟩) | e
    · omega
    · omega
    · exact h.vlo k e)), by rw [hc.h]; exact h.lo, fun k hk => by
    rcases hc.low k hk with e | e
    · exact h.vlo k e
    · have := h.below.size; omega⟩
theorem LW.tab {w0 w : World} {s : CS} {vs : VS} {B : Nat → By} {b vb : Nat} (h : LW w0 w s vs B b vb) (ht : Tab w0) : Tab w := below_tab h.below ht.lt ht
theorem acOf_new (c v room hh : Nat) (B : Nat → By) : acOf (newS c v room hh) B = ⟨room, [], 0, 0, 0, 0⟩ := rfl

theorem full_x (g : Nat) (w4 : World) (hx4 : w4.heap[g]? = some (.cells #[.int .u8 120] 5 (1, 2))) : Calls Tryz.prog 30 #[.slice (some ⟨g, 0, none⟩) 1 1, .int .i64 512] w4 fun e w' => e = .returned (.slice (some ⟨w4.heap.size, 0, none⟩) 512 512) ∧ w'.heap[w4.heap.size]? = some (.cells ((fullB [120] 512).map u8v).toArray 5 (0, 0)) ∧ Below w4.heap.size w4 w' := by
  have := full_bytes [120] (some ⟨g, 0, none⟩) 1 512 w4 (by omega) (by simp) (fun _ => ⟨_, _, rfl, fun j x hj => by
    have h0 : j = 0 := by have := (List.getElem?_eq_some_iff.1 hj).1; simp at this; omega
    subst h0
    have e := cellOf hx4 0
    simp at hj
    subst hj
    simpa [u8v] using e⟩)
  exact this

end Go.Proofs.YtphedokdckoccaaGreatDoor
