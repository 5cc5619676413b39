/-
  A volume's Commit of no puts, whatever the slice.
-/
import Derived.Test.YtphedokdckoccaaGreatDoorGb
import Derived.Deep.DeepAppendRoom
import Derived.Test.YtphedokdckoccaaGreatDoorRfixw
import Derived.WalkKit
import Derived.OrdersIn
import Derived.CallsIn
import Derived.ControlIn
import Derived.TacticsInMore
import Derived.OwnWalkIn

/-
  fresh of the law: a device with a volume of zeros, and its model.
-/
namespace Go.Proofs.YtphedokdckoccaaGreatDoor
open Go.RowKit Go.Maps Go.Sort Go.Shelf

theorem Tryz.info55 : (Tryz.prog.info? 55).map (fun i => (i.zero, i.size, i.bytes)) = some (some (.slice none 0 0), 1, 24) := by kernel_rfl

/-- Rows of zeros, each in a block of its own, in a slice that the call has made. -/
structure ROwn (W : World) (base : Nat) (v : Value) (gs : List Nat) : Prop where
  own : W.ownsRow base 55 1 v gs.length (gs.map fun g => Value.slice (some ⟨g, 0, none⟩) 512 512)
  blk : ∀ g ∈ gs, W.heap[g]? = some (.cells (zeroB.map u8v).toArray 5 (0, 0))

/-- The model's struct: the last of its rows. -/
structure ModelAt (W : World) (base mB k : Nat) (p : Option Addr) (nb c : Nat) : Prop where
  at_ : ∃ v y cs, W.heap[mB]? = some (.cells #[v, y] 40 (0, 0)) ∧ W.ownsRow base 35 1 v (k + 1) (cs ++ [.slice p nb c]) ∧ cs.length = k

theorem ROwn.rows {W : World} {base : Nat} {v : Value} {gs : List Nat} (h : ROwn W base v gs) (hp : 0 < gs.length) : ∃ p c, v = .slice p gs.length c ∧ RowsAt W p gs.length (fun _ => zeroB) := by
  rcases h.own.2 with ⟨e, h0⟩ | ⟨g, cap, cur, rfl, hg, hblk, hcap, _⟩
  · omega
  · refine ⟨_, cap, rfl, fun _ => ⟨g, 0, rfl, ⟨_, _, hblk⟩, fun i hi => ?_⟩⟩
    have hc := h.own.cellAt i (by simpa using hi)
    rw [List.getElem?_map, List.getElem?_eq_getElem hi] at hc
    have hb := h.blk gs[i] (List.getElem_mem hi)
    refine ⟨gs[i], 0, 512, ?_, bytes_block hb, zeroB_length, _, _, hb⟩
    rw [Nat.zero_add]
    simpa using hc

theorem own_belowT {W W' : World} {base : Nat} {e : TypeId} {size : Nat} {v : Value} {n : Nat} {xs : List Value} (h : W.ownsRow base e size v n xs) (hB : Below W.heap.size W W') : W'.ownsRow base e size v n xs := by
  refine ⟨h.1, ?_⟩
  rcases h.2 with h0 | ⟨g, cap, cur, hv, hg, hblk, r⟩
  · exact .inl h0
  · exact .inr ⟨g, cap, cur, hv, hg, (hB.block g (Array.getElem?_eq_some_iff.1 hblk).1).trans hblk, r⟩

theorem cell_ne_tag {W : World} {g g' : Nat} {cs cs' : Array Value} {t t' : TypeId} {fr fr' : Nat × Nat} (h : W.heap[g]? = some (.cells cs t fr)) (h' : W.heap[g']? = some (.cells cs' t' fr')) (ht : t ≠ t') : g ≠ g' := by
  rintro rfl
  rw [h] at h'
  simp only [Option.some.injEq, Obj.cells.injEq] at h'
  exact ht h'.2.1

/-- One row more. -/
theorem ROwn.snoc {W w1 W' : World} {base : Nat} {v v' : Value} {gs : List Nat} (h : ROwn W base v gs) (hb1 : Below W.heap.size W w1) (hz : w1.heap[W.heap.size]? = some (.cells (zeroB.map u8v).toArray 5 (0, 0)))
    (hown : W'.ownsRow base 55 1 v' (gs.length + 1) ((gs.map fun g => Value.slice (some ⟨g, 0, none⟩) 512 512) ++ [Value.slice (some ⟨W.heap.size, 0, none⟩) 512 512])) (hg : (w1.alloc (.cells #[Value.slice (some ⟨W.heap.size, 0, none⟩) 512 512] 55)).grownBy W' v.ownBlock) : ROwn W' base v' (gs ++ [W.heap.size]) := by
  refine ⟨by simpa using hown, fun g hgm => ?_⟩
  have keep : ∀ g : Nat, w1.heap[g]? = some (Obj.cells (zeroB.map u8v).toArray 5 (0, 0)) → W'.heap[g]? = some (Obj.cells (zeroB.map u8v).toArray 5 (0, 0)) := by
    intro g hx
    have hlt := (Array.getElem?_eq_some_iff.1 hx).1
    refine (hg.block g (by simp; omega) (fun e => ?_)).trans ((Below.heap_alloc _ _ g hlt).trans hx)
    rcases h.own.2 with ⟨rfl, _⟩ | ⟨g0, cap, cur, rfl, _, hblk, _⟩
    · simp [Value.ownBlock] at e
    · have e' : g = g0 := by simpa [Value.ownBlock] using e
      exact cell_ne_tag hx (below_block hblk hb1) (by decide) e'
  rcases List.mem_append.1 hgm with hm | hm
  · exact keep g (below_block (h.blk g hm) hb1)
  · rw [List.mem_singleton.1 hm]; exact keep _ hz

/-- A volume of zeros that is just mounted. -/
theorem zero_log (v f nf n : Nat) (F : DataW Value) (d : DS) (hn : d.n = n) (h16 : 16 ≤ n) (hb0 : d.B 0 = headB 1 0 n) (hz : ∀ i, 0 < i → i < n → d.B i = zeroB) : Log ⟨v, f, nf, 0, 1, d.n, F, fun _ => none, d, []⟩ := by
  have hle : 1 + nbOf d.n ≤ d.n := by unfold nbOf; omega
  refine ⟨rfl, fun _ _ => rfl, Nat.le_refl _, by rw [hn]; exact hb0, ⟨hle, fun hlt => ?_⟩, .inl rfl, fun j hj hj' => ?_, fun j hj hj' => ?_⟩
  · show OldB 1 (d.B (1 + nbOf d.n))
    rw [hz _ (by omega) (by have : 1 + nbOf d.n < d.n := hlt; omega)]; exact oldB_zero _
  · show OldB 2 (d.B j)
    have h1 : 1 + nbOf d.n ≤ j := hj
    have h2 : j < d.n := hj'
    rw [hz j (by omega) (by omega)]; exact oldB_zero _
  · show OldB 1 (d.B j)
    have h1 : 1 + nbOf d.n ≤ j := hj
    have h2 : j < d.n := hj'
    rw [hz j (by omega) (by omega)]; exact oldB_zero _

/-- What fresh gives. -/
structure Frs (w w' : World) (n : Nat) (s : VS) (mB : Nat) (p : Option Addr) (c : Nat) : Prop where
  vi : VI w' s
  bud : Bud s 1
  eqn : s.d.n = n
  D : s.d.D = .map []
  commits : s.commits = 0
  cont : ∀ i, i < nbOf n → s.cont i = zeroB
  model : ModelAt w' w.heap.size mB 0 p (nbOf n) c
  rows : RowsAt w' p (nbOf n) (fun _ => zeroB)
  below : Below w.heap.size w w'
  new : ∀ k, (s.mine k ∨ k = mB) → w.heap.size ≤ k

set_option maxRecDepth 8000 in
set_option maxHeartbeats 4000000 in
theorem fresh_any (n : Nat) (w : World) (ht : Tab w) (h16 : 16 ≤ n) (h200 : n ≤ 200) :
    Calls Tryz.prog 12 #[.int .i64 n] w fun e w' => ∃ s mB, e = .returned (.tuple #[dp s.d.a, dp s.v, dp mB]) ∧ ∃ p c, Frs w w' n s mB p c := by
  have c21 := dev_new n w (by omega) (by omega)
  obtain ⟨nb, hnb⟩ : ∃ nb, nb = nbOf n := ⟨_, rfl⟩
  have e1 : ((n : Int) - 8) / 4 = (nb : Int) := by rw [hnb]; unfold nbOf; omega
  have e2 : Int.tdiv ((n : Int) - 8) 4 = (nb : Int) := by rw [Int.tdiv_eq_ediv_of_nonneg (by omega)]; exact e1
  have hnb1 : 1 ≤ nb := by rw [hnb]; unfold nbOf; omega
  have hnb48 : nb ≤ 48 := by rw [hnb]; unfold nbOf; omega
  have HT : Hid (Tab w ∧ nb = nbOf n) := ⟨ht, hnb⟩
  clear ht hnb
  obtain ⟨i0, hi0, hz0, hz1, hz2⟩ := info_parts Tryz.info5
  obtain ⟨j0, hj0, hy0, hy1, hy2⟩ := info_parts Tryz.info55
  go_enter Tryz.func12, Tryz.ntmps12
  go_wp2_with (go_at_call 52; refine c21.mono ?_; rintro e w1 ⟨a, s0, c0, m0, rfl, hd1, hB1, ha1, hs1, hm1⟩; clear c21; refine Stop.out ?_)
  refine Stop.mk ?_
  have ht1 : Tab w1 := below_tab hB1 HT.out.1.lt HT.out.1
  have cF := format_ok (newDS a s0 c0 m0 n) w1 hd1 ht1 h16 (fun i _ => rfl) (fun h => by cases h) (by simp [newDS])
  have H1 : Hid (Dev w1 (newDS a s0 c0 m0 n) ∧ Tab w1 ∧ Below w.heap.size w w1 ∧ ∀ k, (newDS a s0 c0 m0 n).mine k → w.heap.size ≤ k) := ⟨hd1, ht1, hB1, by rintro k (rfl | rfl | rfl); exact ha1; exact hs1; exact hm1⟩
  clear hd1 hB1 ha1 hs1 hm1 ht1
  go_wp2_with (go_at_call 53; refine cF.mono ?_; rintro e w2 ⟨d2, rfl, hb2, hn2, hd2, hdn2, hD2, hB2, hcn2, hfu2⟩; clear cF; refine Stop.out ?_)
  refine Stop.mk ?_
  obtain ⟨hd1, ht1, hB1, lo1⟩ := H1.out
  have ht2 : Tab w2 := hb2.tab ht1 (hd1.noTab ht1)
  have ea2 : d2.a = a := hn2.a
  have en2 : d2.n = n := hdn2
  have hb0 : d2.B 0 = headB 1 0 n := by rw [hB2]; simp [upd, newDS]
  have hzz : ∀ i, 0 < i → i < n → d2.B i = zeroB := fun i h0 _ => by
    rw [hB2]
    have : i ≠ 0 := by omega
    simp [upd, this, newDS]
  have cM := mount_ok [] 1 0 d2 w2 hd2 ht2 (by omega) (by unfold DS.dead; rw [show d2.fused = false from hfu2]; rfl) hD2 (by rw [hb0, en2]) (by omega) (by omega) (by
    refine ⟨by unfold nbOf; omega, fun hlt => ?_⟩
    rw [hzz _ (by omega) (by omega)]
    exact oldB_zero _)
  rw [ea2] at cM
  have B2 : Below w.heap.size w w2 := hB1.trans (hb2.below hB1.size lo1)
  have lo2 : ∀ k, d2.mine k → w.heap.size ≤ k := by
    rintro k (e | e | e)
    · exact lo1 k (.inl (e.trans hn2.a))
    · exact lo1 k (.inr (.inl (e.trans hn2.s)))
    · rcases hn2.m with x | x
      · exact lo1 k (.inr (.inr (e.trans x)))
      · have := hB1.size; omega
  have H2 : Hid (Dev w2 d2 ∧ Below w.heap.size w w2 ∧ (∀ k, d2.mine k → w.heap.size ≤ k) ∧ d2.B 0 = headB 1 0 n ∧ (∀ i, 0 < i → i < n → d2.B i = zeroB) ∧ d2.D = .map [] ∧ d2.count = 4 ∧ d2.fused = false) := ⟨hd2, B2, lo2, hb0, hzz, hD2, hcn2, hfu2⟩
  clear hd1 ht1 hB1 lo1 ht2 hb0 hzz B2 lo2 hd2 hb2 hn2 hD2 hB2 hcn2 hfu2 H1 hdn2
  go_wp2_with (go_at_call 19; refine cM.mono ?_; rintro e w3 ⟨v, f, rfl, hM⟩; clear cM)
  have HM : Hid (Mounted w2 w3 v d2 (0 + ([] : List Rec).length) 1 f []) := hM
  clear hM
  go_loopw [9, 10] (fun mv ii wr => ∃ gs : List Nat, gs.length ≤ nb ∧ ii = .int .i64 gs.length ∧ Hid (ROwn wr w3.heap.size mv gs ∧ Below w3.heap.size w3 wr)) (fun _ ii _ => nb - (intOf ii).toNat)
  case atStart => exact ⟨[], Nat.zero_le _, rfl, ⟨World.ownsRow_nil _ _ _ _, fun g hg => by cases hg⟩, Below.refl _ _⟩
  case round =>
    obtain ⟨gs, hgl, rfl, HI⟩ := hrel
    obtain ⟨p0, l0, c0, hv⟩ : ∃ p l c, u9 = Value.slice p l c := by
      rcases HI.out.1.own.2 with ⟨e, _⟩ | ⟨g, cap, cur, e, _⟩ <;> exact ⟨_, _, _, e⟩
    subst hv
    by_cases hlt : gs.length < nb
    · have hltI : (gs.length : Int) < nb := by omega
      go_wp2_with (first
        | (at_make; refine wpList_make_full _ rfl _ _ 55 rfl 0 5 i0 (.int .u8 0) 1 Tryz.underlying55 hi0 hz0 hz1 .i64 .i64 _ _ 512 rfl rfl rfl rfl (by rw [hz2]; omega) (by unfold maxLen; omega) (Nat.zero_le _) ?_; intro w4 hrow4 hg4; have hz4 : Hid (w4.heap[wr.heap.size]? = some (.cells (zeroB.map u8v).toArray 5 (0, 0))) := (by { have := made_zeros hrow4; rw [← zeros_bytes] at this; exact this }); have HB4 : Hid (Below wr.heap.size wr w4) := (Below.refl _ wr).grown hg4 (Nat.le_refl _) (by simp); clear hrow4 hg4; refine Stop.out ?_))
      refine Stop.mk ?_
      go_wp2_with (at_builtin; refine Stop.out ?_)
      refine Stop.mk ?_
      refine wpList_append_own_at _ rfl _ _ 35 rfl w3.heap.size 55 j0 (.slice none 0 0) 1 24 Tryz.underlying35 hj0 hy0 hy1 hy2 rfl (by decide) (.slice p0 l0 c0) gs.length (gs.map fun g => Value.slice (some ⟨g, 0, none⟩) 512 512) rfl (own_belowT (own_belowT HI.out.1.own HB4.out) ((Below.refl _ w4).alloc (Nat.le_refl _) _)) ⟨w4.heap.size, 0, none⟩ 1 1 [Value.slice (some ⟨wr.heap.size, 0, none⟩) 512 512] rfl rfl (cell_one_new _ _ _) (by intro u hu; rw [List.mem_singleton.1 hu]; rfl) (by unfold maxLen; omega) (by omega) (by have h1 := HI.out.2.size; have h2 := HB4.out.size; simp; omega) ?_
      intro v5 w5 hown5 hg5 _ _
      have hB4 := HB4.out
      have H5 : Hid (ROwn w5 w3.heap.size v5 (gs ++ [wr.heap.size]) ∧ Below w3.heap.size w3 w5) := by
        refine ⟨HI.out.1.snoc hB4 hz4.out hown5 hg5, ?_⟩
        have b4 : Below w3.heap.size w3 w4 := HI.out.2.trans (hB4.mono HI.out.2.size)
        refine (b4.alloc b4.size _).grown hg5 (by have := b4.size; simp; omega) (fun b e => ?_)
        rcases HI.out.1.own.2 with ⟨e', _⟩ | ⟨g, cap, cur, e', hg, _⟩
        · rw [e'] at e; simp [Value.ownBlock] at e
        · rw [e'] at e; simp [Value.ownBlock] at e; omega
      clear hown5 hg5 hB4 hz4 HB4
      go_wp2
      go_roundw
      case rel => exact ⟨gs ++ [wr.heap.size], by simp; omega, by simp, H5⟩
      case measure => simp [intOf]; omega
    · obtain h0 : gs.length = nb := by omega
      have hge : ¬ (gs.length : Int) < nb := by omega
      go_wp2
      go_ret3
      obtain ⟨hd2, B2, lo2, hb0, hzz, hD2, hcn2, hfu2⟩ := H2.out
      have hM := HM.out
      obtain ⟨F, hF⟩ := hM.fr
      obtain ⟨hown, hB⟩ := HI.out
      obtain ⟨p, c, ev, hrows⟩ := hown.rows (by omega)
      cases ev
      have enb : gs.length = nbOf n := h0.trans HT.out.2
      have B3 : Below w.heap.size w w3 := B2.trans (hM.below.mono B2.size)
      have Br : Below w.heap.size w wr := B3.trans (hB.mono B3.size)
      obtain ⟨wA, hwA⟩ : ∃ wA, wA = wr.alloc (.cells #[Value.slice p0 gs.length c0] 35) := ⟨_, rfl⟩
      have hBA : Below wr.heap.size wr wA := by rw [hwA]; exact (Below.refl _ wr).alloc (Nat.le_refl _) _
      have hsA : wA.heap.size = wr.heap.size + 1 := by rw [hwA]; simp
      have hgA : wA.heap[wr.heap.size]? = some (.cells #[Value.slice p0 gs.length c0] 35 (0, 0)) := by rw [hwA]; exact heap_alloc_new wr _
      rw [← hwA]
      obtain ⟨wB, hwB⟩ : ∃ wB, wB = wA.alloc (.cells #[Value.slice (some ⟨wr.heap.size, 0, none⟩) 1 1, Value.int .i64 0] 40) := ⟨_, rfl⟩
      have hBB : Below wA.heap.size wA wB := by rw [hwB]; exact (Below.refl _ wA).alloc (Nat.le_refl _) _
      have hgB : wB.heap[wr.heap.size + 1]? = some (.cells #[Value.slice (some ⟨wr.heap.size, 0, none⟩) 1 1, Value.int .i64 0] 40 (0, 0)) := by rw [hwB, ← hsA]; exact heap_alloc_new wA _
      rw [← hwB]
      clear hwA hwB
      have hAB : Below wr.heap.size wr wB := hBA.trans (hBB.mono hBA.size)
      have h3B : Below w3.heap.size w3 wB := hB.trans (hAB.mono hB.size)
      have hfm : f ≠ d2.m := by have h1 := hM.flt; have h2 := hd2.mlt; omega
      have hvlt := hM.vlt
      have hflt := hM.flt
      have hs2 := B2.size
      have hs3 := hM.below.size
      have hsr := hB.size
      refine ⟨⟨v, f, 0, 0, 1, d2.n, F, fun _ => none, d2, []⟩, wr.heap.size + 1, ?_, p0, c0, ⟨⟨hM.vol.below h3B, (hd2.below hM.below).below h3B, hF.below h3B, hfm, hfu2, by rw [en2]; exact h16, by rw [en2]; exact h200, zero_log v f 0 n F d2 en2 h16 hb0 hzz⟩, ⟨Nat.zero_le _, ?_, Nat.zero_le _, Nat.le_succ 1⟩, en2, hD2, rfl, fun i hi => ?_, ⟨_, _, [], hgB, ?_, rfl⟩, ?_, ?_, ?_⟩⟩
      · show _ = Ending.returned (.tuple #[dp d2.a, dp v, dp (wr.heap.size + 1)])
        rw [ea2]
        rfl
      · show d2.count ≤ 1 * 1000
        omega
      · show d2.B (1 + i) = zeroB
        exact hzz _ (by omega) (by unfold nbOf at hi; omega)
      · refine ⟨rfl, .inr ⟨wr.heap.size, 1, #[Value.slice p0 gs.length c0], rfl, by omega, below_block hgA hBB, ?_⟩⟩
        rw [enb]
        simp [maxLen]
      · rw [← enb]
        exact hrows.below hAB
      · exact Br.trans (hAB.mono Br.size)
      · rintro k ((e | e | hm) | e)
        · have e' : k = v := e
          omega
        · have e' : k = f := e
          omega
        · exact lo2 k hm
        · omega

end Go.Proofs.YtphedokdckoccaaGreatDoor

/-
  What WalWhole lays in memory: a block of bytes over and over; a row of puts.
-/
namespace Go.Proofs.YtphedokdckoccaaGreatDoor
open Go.RowKit Go.Maps Go.Sort Go.Shelf

/-- n bytes of some bytes, over and over. -/
def fullB (bs : By) (n : Nat) : By := (List.range n).map fun i => (bs[i % bs.length]?).getD 0
theorem fullB_length (bs : By) (n : Nat) : (fullB bs n).length = n := by simp [fullB]

theorem full_bytes (bs : By) (bp : Option Addr) (bc n : Nat) (w : World) (hn : n ≤ 70000) (hbl : bs.length < 9223372036854775808) (hb : Bytes w bp bs) :
    Calls Tryz.prog 30 #[.slice bp bs.length bc, .int .i64 n] w fun e w' => e = .returned (.slice (some ⟨w.heap.size, 0, none⟩) n n) ∧
      w'.heap[w.heap.size]? = some (.cells ((fullB bs n).map u8v).toArray 5 (0, 0)) ∧ Below w.heap.size w w' := by
  have hl : (bs.map fun b => (b.toNat : Int)).length = bs.length := by simp
  have := full_any (bs.map fun b => (b.toNat : Int)) bp bc n w hn (by rw [hl]; exact hbl) (fun hp => by
    rw [hl] at hp
    obtain ⟨bb, bo, e, hx⟩ := hb hp
    refine ⟨bb, bo, e, fun j x hj => ?_⟩
    rw [List.getElem?_map] at hj
    obtain ⟨y, hy, rfl⟩ := Option.map_eq_some_iff.1 hj
    exact hx j y hy)
  rw [hl] at this
  refine this.mono ?_
  rintro e w' ⟨rfl, h1, h2⟩
  refine ⟨rfl, ?_, h2⟩
  rw [h1]
  have : (full (bs.map fun b => (b.toNat : Int)) n).map u8 = (fullB bs n).map u8v := by
    unfold full fullB
    rw [List.map_map, List.map_map]
    refine List.map_congr_left (fun i _ => ?_)
    simp only [Function.comp, List.length_map, List.getElem?_map]
    cases bs[i % bs.length]? with
    | none => rfl
    | some b => rfl
  rw [this]

/-- A row of puts that the call has made. -/
theorem puts_of_own {W : World} {base : Nat} {v : Value} {n : Nat} {f : Nat → PutM} (hown : W.ownsRow base 91 2 v n (((List.range n).map fun k => putCells (f k)).flatten)) (hn : 0 < n)
    (hd : ∀ k, k < n → (f k).bytes.length ≤ (f k).cap ∧ Bytes W (f k).at_ (f k).bytes ∧ ∀ b o, (f k).at_ = some ⟨b, o, none⟩ → ∃ cs fr, W.heap[b]? = some (.cells cs 5 fr)) :
    ∃ p c, v = .slice p n c ∧ PutsAt W p ((List.range n).map f) := by
  rcases hown.2 with ⟨e, h0⟩ | ⟨g, cap, cur, rfl, hg, hblk, hcap, _⟩
  · omega
  · have hget : ∀ j x, ((List.range n).map f)[j]? = some x → j < n ∧ x = f j := by
      intro j x hj
      have hlt := (List.getElem?_eq_some_iff.1 hj).1
      rw [List.length_map, List.length_range] at hlt
      rw [List.getElem?_map, List.getElem?_range hlt] at hj
      exact ⟨hlt, (Option.some.inj hj).symm⟩
    refine ⟨_, cap, rfl, fun _ => ⟨g, 0, rfl, ⟨_, _, hblk⟩, fun j x hj => ?_⟩, fun j x hj => ?_⟩
    · obtain ⟨hlt, rfl⟩ := hget j x hj
      have hll : (((List.range n).map fun k => putCells (f k)).flatten).length = n * 2 := hown.1
      have c0 := hown.cellAt (j * 2 + 0) (by omega)
      have c1 := hown.cellAt (j * 2 + 1) (by omega)
      rw [flat_get f n j hlt 0 (by omega)] at c0
      rw [flat_get f n j hlt 1 (by omega)] at c1
      refine ⟨?_, ?_⟩
      · rw [Nat.zero_add]; simpa [putCells] using c0
      · rw [Nat.zero_add]; simpa [putCells] using c1
    · obtain ⟨hlt, rfl⟩ := hget j x hj
      exact hd j hlt

end Go.Proofs.YtphedokdckoccaaGreatDoor

/-
  append, and what becomes of the slice that was appended to: it holds what it held.
-/
namespace Go.Proofs.YtphedokdckoccaaGreatDoor
open Go.RowKit Go.Maps Go.Sort Go.Shelf

theorem run_append_keeps {P : Program} (w : World) (base : Nat) (t ty e : TypeId) (i : TypeInfo) (z : Value) (size bytes : Nat) (ht : P.underlying t = some (.slice e)) (hi : P.info? e = some i) (hz : i.zero = some z)
    (hsize : i.size = size) (hby : i.bytes = bytes) (hzs : z.cells.size = size) (hsz : 0 < size)
    (g n cap : Nat) (xs : List Value) (hown : w.ownsRow base e size (.slice (some ⟨g, 0, none⟩) n cap) n xs)
    (ad : Addr) (m c : Nat) (news : List Value) (hl : news.length = m * size) (hnews : ∀ j u, news[j]? = some u → w.cell? (ad.add j) = some u) (h1 : ∀ u ∈ news, u.oneCell' = true)
    (h63 : n + m ≤ maxLen) (hbytes : (n + m) * bytes ≤ 140737488355328) (hbase : base ≤ w.heap.size) :
    ∃ v' w', (Builtin.append_ #[t, t] ty #[.slice (some ⟨g, 0, none⟩) n cap, .slice (some ad) m c]).run P w = .ok v' w' ∧ w'.ownsRow base e size v' (n + m) (xs ++ news) ∧ w.grownBy w' (some g) ∧ w'.ownsRow base e size (.slice (some ⟨g, 0, none⟩) n cap) n xs := by
  have hlx := hown.1
  by_cases hroom : n + m ≤ cap
  · obtain ⟨w', hr, h2, h3⟩ := run_append_own_spare (P := P) w base t ty e i size ht hi hsize g n cap xs hown ad m c news hl hnews h1 hroom
    refine ⟨_, w', hr, h2, h3, hlx, .inr ?_⟩
    rcases h2.2 with ⟨e0, _⟩ | ⟨g', cap', cur, e0, hb, hblk, _, hcm, hcs, htk⟩
    · cases e0
    · cases e0
      refine ⟨g, cap, cur, rfl, hb, hblk, by omega, hcm, hcs, ?_⟩
      have e1 : (cur.toList.take ((n + m) * size)).take (n * size) = (xs ++ news).take (n * size) := by rw [htk]
      rw [List.take_take, Nat.min_eq_left (Nat.mul_le_mul_right _ (by omega)), ← hlx, List.take_left] at e1
      rw [← hlx]
      exact e1
  · obtain ⟨v', w', hr, h2, h3, _, _⟩ := run_append_own_at (P := P) w base t ty e i z size bytes ht hi hz hsize hby hzs hsz (.slice (some ⟨g, 0, none⟩) n cap) n xs hown ad m c news hl hnews h1 h63 hbytes hbase
    refine ⟨v', w', hr, h2, h3, hlx, .inr ?_⟩
    have holds : ∀ j u, xs[j]? = some u → w.cell? ((⟨g, 0, none⟩ : Addr).add j) = some u := hown.cells (g := g) rfl
    subst hsize
    subst hby
    have hr2 := run_append_grow (P := P) w t ty e i z ht hi hz ⟨g, 0, none⟩ n cap xs hlx holds ad m c news hl hnews (by omega) (by unfold maxLen at h63; omega) (growslice_fits (by omega) hbytes)
    rw [hr] at hr2
    cases hr2
    rcases hown.2 with ⟨e0, _⟩ | ⟨g', cap', cur, e0, hb, hblk, hnc, hcm, hcs, htk⟩
    · cases e0
    · cases e0
      exact ⟨g, cap, cur, rfl, hb, (Below.heap_alloc w.drew _ g (Array.getElem?_eq_some_iff.1 hblk).1).trans hblk, hnc, hcm, hcs, htk⟩

theorem wpList_append_keeps {P : Program} (w : World) {ops : Array Oper} {rest : List Oper} {o : Oper} {a : Act} {Q : Exit → Act → World → Prop} (hgd : o.guard = none) (s x : Operand) (t : TypeId)
    (ho : o.op = .call { callee := .builtin .append, args := #[s, x], argTypes := #[t, t] })
    (base : Nat) (e : TypeId) (i : TypeInfo) (z : Value) (size bytes : Nat) (ht : P.underlying t = some (.slice e)) (hi : P.info? e = some i) (hz : i.zero = some z)
    (hsize : i.size = size) (hby : i.bytes = bytes) (hzs : z.cells.size = size) (hsz : 0 < size)
    (g n cap : Nat) (xs : List Value) (hs : a.eval s = .slice (some ⟨g, 0, none⟩) n cap) (hown : w.ownsRow base e size (.slice (some ⟨g, 0, none⟩) n cap) n xs)
    (ad : Addr) (m c : Nat) (news : List Value) (hx : a.eval x = .slice (some ad) m c) (hl : news.length = m * size) (hnews : ∀ j u, news[j]? = some u → w.cell? (ad.add j) = some u) (h1 : ∀ u ∈ news, u.oneCell' = true)
    (h63 : n + m ≤ maxLen) (hbytes : (n + m) * bytes ≤ 140737488355328) (hbase : base ≤ w.heap.size)
    (h : ∀ v' w', w'.ownsRow base e size v' (n + m) (xs ++ news) → w.grownBy w' (some g) → w'.ownsRow base e size (.slice (some ⟨g, 0, none⟩) n cap) n xs → wpList P ops Q rest (a.put o.dst v') w') :
    wpList P ops Q (o :: rest) a w := by
  refine wpList_plain hgd fun K hK => ?_
  obtain ⟨v', w', hr, h2, h3, h4⟩ := run_append_keeps (P := P) w base t o.type e i z size bytes ht hi hz hsize hby hzs hsz g n cap xs hown ad m c news hl hnews h1 h63 hbytes hbase
  unfold Oper.wp execOp
  simp only [ho, resolve, invoke, builtin, Sem.run_bind, Sem.run_pure, Result.andThen_ok, List.map_toArray, List.map_cons, List.map_nil, hs, hx, hr]
  exact hK _ _ (h v' w' h2 h3 h4)

/-- Two cells that were just laid. -/
theorem cell_two_new (w : World) (x y : Value) (t : TypeId) : ∀ j u, [x, y][j]? = some u → (w.alloc (.cells #[x, y] t)).cell? ((⟨w.heap.size, 0, none⟩ : Addr).add j) = some u := by
  intro j u hj
  rw [Addr.add_lit, Nat.zero_add, cellOf (heap_alloc_new w _) j]
  simpa using hj

/-- A slice that was just laid. -/
theorem own_new (w : World) (base : Nat) (e : TypeId) (size n : Nat) (cs : List Value) (hl : cs.length = n * size) (hn : n ≤ maxLen) (hb : base ≤ w.heap.size) : (w.alloc (.cells cs.toArray e)).ownsRow base e size (.slice (some ⟨w.heap.size, 0, none⟩) n n) n cs := by
  refine ⟨hl, .inr ⟨w.heap.size, n, cs.toArray, rfl, hb, heap_alloc_new w _, Nat.le_refl _, hn, by simpa using hl, ?_⟩⟩
  rw [← hl]
  simp

theorem run_append_bytes47 {W : World} {base : Nat} {v : Value} {n : Nat} {xs : List Value} (ty : TypeId) (hown : W.ownsRow base 5 1 v n xs) (p : Option Addr) (bs : By) (cp : Nat) (hb : Bytes W p bs)
    (h63 : n + bs.length ≤ 140737488355328) (hbase : base ≤ W.heap.size) :
    ∃ v' W', (Builtin.append_ #[55, 55] ty #[v, .slice p bs.length cp]).run Tryz.prog W = .ok v' W' ∧ W'.ownsRow base 5 1 v' (n + bs.length) (xs ++ bs.map u8v) ∧ W.grownBy W' v.ownBlock := by
  obtain ⟨i0, hi0, hz0, hz1, hz2⟩ := info_parts Tryz.info5
  rcases p with _ | ad
  · have h0 : bs = [] := by
      by_cases hl : 0 < bs.length
      · obtain ⟨_, _, h, _⟩ := hb hl; cases h
      · exact List.eq_nil_of_length_eq_zero (by omega)
    subst h0
    exact ⟨v, W, run_append_none_any base 55 ty 5 i0 1 Tryz.underlying55 hi0 v n xs hown cp, by simpa using hown, ⟨rfl, rfl, rfl, Nat.le_refl _, fun _ _ _ => rfl⟩⟩
  · obtain ⟨v', w', hr, h2, h3, _, _⟩ := run_append_own_at (P := Tryz.prog) W base 55 ty 5 i0 (.int .u8 0) 1 1 Tryz.underlying55 hi0 hz0 hz1 hz2 rfl (by decide) v n xs hown ad bs.length cp (bs.map u8v) (by simp)
      (fun j u hj => by
        rw [List.getElem?_map] at hj
        obtain ⟨x, hx, rfl⟩ := Option.map_eq_some_iff.1 hj
        obtain ⟨b, o, e, hc⟩ := hb (Nat.lt_of_le_of_lt (Nat.zero_le _) (List.getElem?_eq_some_iff.1 hx).1)
        cases e
        rw [Addr.add_lit]
        exact hc j x hx) (u8v_one bs) (by unfold maxLen; omega) (by omega) hbase
    exact ⟨v', w', hr, h2, h3⟩

theorem wpList_append_bytes47 {W : World} {ops : Array Oper} {rest : List Oper} {o : Oper} {a : Act} {Q : Exit → Act → World → Prop} (hgd : o.guard = none) (s x : Operand)
    (ho : o.op = .call { callee := .builtin .append, args := #[s, x], argTypes := #[55, 55] })
    (base : Nat) (v : Value) (n : Nat) (xs : List Value) (hs : a.eval s = v) (hown : W.ownsRow base 5 1 v n xs)
    (p : Option Addr) (bs : By) (cp : Nat) (hx : a.eval x = .slice p bs.length cp) (hb : Bytes W p bs) (h63 : n + bs.length ≤ 140737488355328) (hbase : base ≤ W.heap.size)
    (h : ∀ v' w', w'.ownsRow base 5 1 v' (n + bs.length) (xs ++ bs.map u8v) → W.grownBy w' v.ownBlock → wpList Tryz.prog ops Q rest (a.put o.dst v') w') :
    wpList Tryz.prog ops Q (o :: rest) a W := by
  refine wpList_plain hgd fun K hK => ?_
  obtain ⟨v', w', hr, h2, h3⟩ := run_append_bytes47 (ty := o.type) hown p bs cp hb h63 hbase
  unfold Oper.wp execOp
  simp only [ho, resolve, invoke, builtin, Sem.run_bind, Sem.run_pure, Result.andThen_ok, List.map_toArray, List.map_cons, List.map_nil, hs, hx, hr]
  exact hK _ _ (h v' w' h2 h3)

/-- A row stays where another block grows. -/
theorem own_grownT {W W' : World} {base : Nat} {e : TypeId} {size : Nat} {v : Value} {n : Nat} {xs : List Value} {row : Option Nat} (h : W.ownsRow base e size v n xs) (hg : W.grownBy W' row)
    (hne : ∀ g cs, row = some g → W.heap[g]? = some (.cells cs e (0, 0)) → False) : W'.ownsRow base e size v n xs := by
  refine ⟨h.1, ?_⟩
  rcases h.2 with h0 | ⟨g, cap, cur, hv, hb, hblk, r⟩
  · exact .inl h0
  · refine .inr ⟨g, cap, cur, hv, hb, (hg.block g (Array.getElem?_eq_some_iff.1 hblk).1 (fun e => hne g cur e.symm hblk)).trans hblk, r⟩

theorem u8v_small (k : Nat) (h : k < 256) : u8v (BitVec.ofNat 8 k) = .int .u8 (k : Nat) := by
  unfold u8v
  rw [BitVec.toNat_ofNat, Nat.mod_eq_of_lt (by simpa using h)]

end Go.Proofs.YtphedokdckoccaaGreatDoor

/-
  What WalWhole's loops keep.
-/
namespace Go.Proofs.YtphedokdckoccaaGreatDoor
open Go.RowKit Go.Maps Go.Sort Go.Shelf

/-- What block i is behind the commit of number t. -/
def wb (b : By) (t i : Nat) : By := fullB (BitVec.ofNat 8 i :: BitVec.ofNat 8 t :: b) 512
theorem wb_length (b : By) (t i : Nat) : (wb b t i).length = 512 := fullB_length _ _
def wput (b : By) (t : Nat) (gs : List Nat) (j : Nat) : PutM := ⟨(j : Int), some ⟨gs.getD j 0, 0, none⟩, 512, wb b t j⟩
def wrow (gs : List Nat) (j : Nat) : Value := .slice (some ⟨gs.getD j 0, 0, none⟩) 512 512

/-- The inner loop: k puts and rows are laid. -/
structure IInv (wr W : World) (b : By) (t : Nat) (lv xv : Value) (gs : List Nat) : Prop where
  puts : W.ownsRow wr.heap.size 91 2 lv gs.length (((List.range gs.length).map fun j => putCells (wput b t gs j)).flatten)
  rows : W.ownsRow wr.heap.size 55 1 xv gs.length ((List.range gs.length).map (wrow gs))
  blk : ∀ j, j < gs.length → W.heap[gs.getD j 0]? = some (.cells ((wb b t j).map u8v).toArray 5 (0, 0))
  below : Below wr.heap.size wr W

theorem getD_snoc (gs : List Nat) (x j : Nat) (h : j < gs.length) : (gs ++ [x]).getD j 0 = gs.getD j 0 := by
  simp [List.getD, List.getElem?_append_left h]
theorem getD_last (gs : List Nat) (x : Nat) : (gs ++ [x]).getD gs.length 0 = x := by simp [List.getD]

theorem putsL_snoc (b : By) (t : Nat) (gs : List Nat) (x : Nat) : ((List.range (gs ++ [x]).length).map fun j => putCells (wput b t (gs ++ [x]) j)).flatten =
    ((List.range gs.length).map fun j => putCells (wput b t gs j)).flatten ++ [.int .i64 gs.length, .slice (some ⟨x, 0, none⟩) 512 512] := by
  have hl : (gs ++ [x]).length = gs.length + 1 := by simp
  rw [hl, List.range_succ, List.map_append, List.flatten_append]
  have e1 : (List.range gs.length).map (fun j => putCells (wput b t (gs ++ [x]) j)) = (List.range gs.length).map fun j => putCells (wput b t gs j) :=
    List.map_congr_left fun j hj => by unfold wput; rw [getD_snoc gs x j (List.mem_range.1 hj)]
  rw [e1]
  congr 1
  simp only [List.map_cons, List.map_nil, List.flatten_cons, List.flatten_nil, List.append_nil]
  unfold putCells wput
  rw [getD_last, wb_length]
theorem rowsL_snoc (gs : List Nat) (x : Nat) : (List.range (gs ++ [x]).length).map (wrow (gs ++ [x])) = (List.range gs.length).map (wrow gs) ++ [.slice (some ⟨x, 0, none⟩) 512 512] := by
  have hl : (gs ++ [x]).length = gs.length + 1 := by simp
  rw [hl, List.range_succ, List.map_append]
  have e1 : (List.range gs.length).map (wrow (gs ++ [x])) = (List.range gs.length).map (wrow gs) :=
    List.map_congr_left fun j hj => by unfold wrow; rw [getD_snoc gs x j (List.mem_range.1 hj)]
  rw [e1]
  congr 1
  simp only [List.map_cons, List.map_nil]
  unfold wrow
  rw [getD_last]

theorem IInv.nil (wr : World) (b : By) (t : Nat) : IInv wr wr b t (.slice none 0 0) (.slice none 0 0) [] :=
  ⟨World.ownsRow_nil _ _ _ _, World.ownsRow_nil _ _ _ _, fun _ hj => absurd hj (Nat.not_lt_zero _), Below.refl _ _⟩

/-- The puts, as Commit takes them. -/
theorem IInv.putsAt {wr W : World} {b : By} {t : Nat} {lv xv : Value} {gs : List Nat} (h : IInv wr W b t lv xv gs) (hn : 0 < gs.length) : ∃ p c, lv = .slice p gs.length c ∧ PutsAt W p ((List.range gs.length).map (wput b t gs)) :=
  puts_of_own h.puts hn fun k hk => ⟨by simp [wput, wb_length], by simp only [wput]; exact bytes_block (h.blk k hk), fun b' o e => by
    have e' : gs.getD k 0 = b' := by
      have := Option.some.inj e
      exact congrArg Addr.block this
    rw [← e']
    exact ⟨_, _, h.blk k hk⟩⟩

/-- The rows, as the model holds them. -/
theorem IInv.rowsAt {wr W : World} {b : By} {t : Nat} {lv xv : Value} {gs : List Nat} (h : IInv wr W b t lv xv gs) (hn : 0 < gs.length) : ∃ p c, xv = .slice p gs.length c ∧ RowsAt W p gs.length (wb b t) := by
  rcases h.rows.2 with ⟨_, h0⟩ | ⟨g, cap, cur, rfl, hg, hblk, hcap, _⟩
  · omega
  · refine ⟨_, cap, rfl, fun _ => ⟨g, 0, rfl, ⟨_, _, hblk⟩, fun i hi => ?_⟩⟩
    have hc := h.rows.cellAt i (by simpa using hi)
    rw [List.getElem?_map, List.getElem?_range hi] at hc
    refine ⟨gs.getD i 0, 0, 512, ?_, bytes_block (h.blk i hi), wb_length _ _ _, _, _, h.blk i hi⟩
    rw [Nat.zero_add]
    exact hc

/-- Where a row's own block is, its cells are of the row's type. -/
theorem own_tag {W : World} {base : Nat} {e : TypeId} {size : Nat} {v : Value} {n : Nat} {xs : List Value} (h : W.ownsRow base e size v n xs) {g : Nat} {cs : Array Value} {t : TypeId} {fr : Nat × Nat} (hg : v.ownBlock = some g) (hc : W.heap[g]? = some (.cells cs t fr)) : t = e := by
  rcases h.2 with ⟨rfl, _⟩ | ⟨g', cap, cur, rfl, _, hblk, _⟩
  · simp [Value.ownBlock] at hg
  · have e' : g' = g := by simpa [Value.ownBlock] using hg
    rw [e', hc] at hblk
    simp only [Option.some.injEq, Obj.cells.injEq] at hblk
    exact hblk.2.1

/-- The rows ahead of their own append. -/
theorem IInv.rows4 {wr W w3 w4 : World} {b : By} {t : Nat} {lv xv : Value} {gs : List Nat} (h : IInv wr W b t lv xv gs) (hB : Below W.heap.size W w3) (o1 o2 : Obj) (hg4 : (w3.alloc o1).grownBy w4 lv.ownBlock) :
    (w4.alloc o2).ownsRow wr.heap.size 55 1 xv gs.length ((List.range gs.length).map (wrow gs)) := by
  have r3 := own_belowT (own_belowT h.rows hB) ((Below.refl w3.heap.size w3).alloc (Nat.le_refl _) o1)
  have p3 := own_belowT (own_belowT h.puts hB) ((Below.refl w3.heap.size w3).alloc (Nat.le_refl _) o1)
  have r4 := own_grownT r3 hg4 (fun g cs e hc => absurd (own_tag p3 e hc) (by decide))
  exact own_belowT r4 ((Below.refl _ w4).alloc (Nat.le_refl _) o2)

/-- One put and one row more. -/
theorem IInv.snoc {wr W w3 w4 w5 : World} {b : By} {t x : Nat} {lv xv lv' xv' : Value} {gs : List Nat} {o1 o2 : Obj} (h : IInv wr W b t lv xv gs) (hB : Below W.heap.size W w3) (hz : w3.heap[x]? = some (.cells ((wb b t gs.length).map u8v).toArray 5 (0, 0)))
    (hown4 : w4.ownsRow wr.heap.size 91 2 lv' (gs.length + 1) (((List.range gs.length).map fun j => putCells (wput b t gs j)).flatten ++ [.int .i64 gs.length, .slice (some ⟨x, 0, none⟩) 512 512])) (hg4 : (w3.alloc o1).grownBy w4 lv.ownBlock)
    (hown5 : w5.ownsRow wr.heap.size 55 1 xv' (gs.length + 1) ((List.range gs.length).map (wrow gs) ++ [.slice (some ⟨x, 0, none⟩) 512 512])) (hg5 : (w4.alloc o2).grownBy w5 xv.ownBlock) : IInv wr w5 b t lv' xv' (gs ++ [x]) := by
  have r4 := h.rows4 hB o1 o2 hg4
  have p3 := own_belowT (own_belowT h.puts hB) ((Below.refl w3.heap.size w3).alloc (Nat.le_refl _) o1)
  have hl : (gs ++ [x]).length = gs.length + 1 := by simp
  have keep : ∀ (g : Nat) cs, w3.heap[g]? = some (Obj.cells cs 5 (0, 0)) → w5.heap[g]? = some (Obj.cells cs 5 (0, 0)) := by
    intro g cs hx
    have a3 : (w3.alloc o1).heap[g]? = some (Obj.cells cs 5 (0, 0)) := (Below.heap_alloc _ _ g (Array.getElem?_eq_some_iff.1 hx).1).trans hx
    have a4 : w4.heap[g]? = some (Obj.cells cs 5 (0, 0)) := (hg4.block g (Array.getElem?_eq_some_iff.1 a3).1 (fun e => absurd (own_tag p3 e.symm a3) (by decide))).trans a3
    have a4' : (w4.alloc o2).heap[g]? = some (Obj.cells cs 5 (0, 0)) := (Below.heap_alloc _ _ g (Array.getElem?_eq_some_iff.1 a4).1).trans a4
    exact (hg5.block g (Array.getElem?_eq_some_iff.1 a4').1 (fun e => absurd (own_tag r4 e.symm a4') (by decide))).trans a4'
  refine ⟨?_, ?_, fun j hj => ?_, ?_⟩
  · rw [putsL_snoc, hl]
    exact own_grownT (own_belowT hown4 ((Below.refl _ w4).alloc (Nat.le_refl _) o2)) hg5 (fun g cs e hc => absurd (own_tag r4 e hc) (by decide))
  · rw [rowsL_snoc, hl]
    exact hown5
  · rw [hl] at hj
    by_cases hlt : j < gs.length
    · rw [getD_snoc gs x j hlt]
      exact keep _ _ (below_block (h.blk j hlt) hB)
    · obtain rfl : j = gs.length := by omega
      rw [getD_last]
      exact keep _ _ hz
  · have B3 : Below wr.heap.size wr w3 := h.below.trans (hB.mono h.below.size)
    have low : ∀ {e : TypeId} {size : Nat} {v : Value} {n : Nat} {xs : List Value} {V : World}, V.ownsRow wr.heap.size e size v n xs → ∀ g, v.ownBlock = some g → wr.heap.size ≤ g := by
      intro e size v n xs V hr g hg
      rcases hr.2 with ⟨rfl, _⟩ | ⟨g', cap, cur, rfl, hb, _⟩
      · simp [Value.ownBlock] at hg
      · have : g' = g := by simpa [Value.ownBlock] using hg
        omega
    have B4 : Below wr.heap.size wr w4 := (B3.alloc B3.size o1).grown hg4 (by have := B3.size; simp; omega) (low p3)
    exact (B4.alloc B4.size o2).grown hg5 (by have := B4.size; simp; omega) (low r4)

end Go.Proofs.YtphedokdckoccaaGreatDoor

/-
  The puts of WalWhole's commits: that of all blocks, and that of one put more.
-/
namespace Go.Proofs.YtphedokdckoccaaGreatDoor
open Go.RowKit Go.Maps Go.Sort Go.Shelf

theorem laidOn_range (g : Nat → By) : ∀ (m i : Nat), laidOn (fun _ => none) ((List.range m).map fun j => (j, g j)) i = if i < m then some (g i) else none
  | 0, i => by simp [laidOn]
  | m + 1, i => by
    rw [List.range_succ, List.map_append, laidOn_append]
    have e : ∀ st : Nat → Option By, laidOn st ([m].map fun j => (j, g j)) i = if i = m then some (g m) else st i := fun _ => rfl
    rw [e, laidOn_range g m i]
    by_cases h : i = m
    · subst h; simp
    · rw [if_neg h]
      by_cases h2 : i < m
      · rw [if_pos h2, if_pos (by omega)]
      · rw [if_neg h2, if_neg (by omega)]

def wputs (b : By) (t : Nat) (gs : List Nat) (nb : Nat) : List PutM := (List.range nb).map (wput b t gs)
theorem wputs_length (b : By) (t : Nat) (gs : List Nat) (nb : Nat) : (wputs b t gs nb).length = nb := by simp [wputs]
theorem wputs_rec (b : By) (t : Nat) (gs : List Nat) (nb : Nat) : recOf (wputs b t gs nb) = (List.range nb).map fun j => (j, wb b t j) := by
  unfold recOf wputs
  rw [List.map_map]
  exact List.map_congr_left fun j _ => by simp [wput]
theorem wputs_good (b : By) (t : Nat) (gs : List Nat) (nb : Nat) : (wputs b t gs nb).all (goodPut nb) = true := by
  rw [List.all_eq_true]
  intro x hx
  obtain ⟨j, hj, rfl⟩ := List.mem_map.1 hx
  have := List.mem_range.1 hj
  simp [goodPut, wput, wb_length]
  omega
/-- What a block is behind the commit. -/
theorem wputs_laid (b : By) (t : Nat) (gs : List Nat) (nb i : Nat) (hi : i < nb) (x : By) : (laidOn (fun _ => none) (recOf (wputs b t gs nb)) i).getD x = wb b t i := by
  have e := laidOn_range (wb b t) nb i
  rw [if_pos hi] at e
  rw [wputs_rec, e]
  exact Option.getD_some

/-- One put more: of block 0, zeros. -/
def wmore (b : By) (t : Nat) (gs : List Nat) (nb z j : Nat) : PutM := if j < nb then wput b t gs j else ⟨0, some ⟨z, 0, none⟩, 512, zeroB⟩
theorem wmore_cells (b : By) (t : Nat) (gs : List Nat) (nb z : Nat) : ((List.range (nb + 1)).map fun j => putCells (wmore b t gs nb z j)).flatten = ((List.range nb).map fun j => putCells (wput b t gs j)).flatten ++ [.int .i64 0, .slice (some ⟨z, 0, none⟩) 512 512] := by
  rw [List.range_succ, List.map_append, List.flatten_append]
  have e1 : (List.range nb).map (fun j => putCells (wmore b t gs nb z j)) = (List.range nb).map fun j => putCells (wput b t gs j) :=
    List.map_congr_left fun j hj => by unfold wmore; rw [if_pos (List.mem_range.1 hj)]
  rw [e1]
  congr 1
  simp only [List.map_cons, List.map_nil, List.flatten_cons, List.flatten_nil, List.append_nil]
  unfold wmore
  rw [if_neg (Nat.lt_irrefl _)]
  simp [putCells, zeroB_length]
theorem puts_more {W : World} {base : Nat} {v : Value} {b : By} {t nb z : Nat} {gs : List Nat} (hown : W.ownsRow base 91 2 v (nb + 1) (((List.range nb).map fun j => putCells (wput b t gs j)).flatten ++ [.int .i64 0, .slice (some ⟨z, 0, none⟩) 512 512]))
    (hblk : ∀ j, j < nb → W.heap[gs.getD j 0]? = some (.cells ((wb b t j).map u8v).toArray 5 (0, 0))) (hz : W.heap[z]? = some (.cells (zeroB.map u8v).toArray 5 (0, 0))) :
    ∃ p c, v = .slice p (nb + 1) c ∧ PutsAt W p ((List.range (nb + 1)).map (wmore b t gs nb z)) := by
  rw [← wmore_cells] at hown
  refine puts_of_own hown (Nat.succ_pos _) fun k _ => ?_
  by_cases h : k < nb
  · have e : wmore b t gs nb z k = wput b t gs k := by unfold wmore; rw [if_pos h]
    rw [e]
    refine ⟨by simp [wput, wb_length], by simp only [wput]; exact bytes_block (hblk k h), fun b' o e => ?_⟩
    have e' : gs.getD k 0 = b' := congrArg Addr.block (Option.some.inj e)
    rw [← e']
    exact ⟨_, _, hblk k h⟩
  · have e : wmore b t gs nb z k = ⟨0, some ⟨z, 0, none⟩, 512, zeroB⟩ := by unfold wmore; rw [if_neg h]
    rw [e]
    refine ⟨by simp [zeroB_length], bytes_block hz, fun b' o e => ?_⟩
    have e' : z = b' := congrArg Addr.block (Option.some.inj e)
    rw [← e']
    exact ⟨_, _, hz⟩
theorem wmore_no (b : By) (t : Nat) (gs : List Nat) (nb z : Nat) : takesB nb ((List.range (nb + 1)).map (wmore b t gs nb z)) = false := by
  unfold takesB
  rw [List.length_map, List.length_range, decide_eq_false (by omega)]
  rfl

theorem ModelAt.below {W W' : World} {base mB k : Nat} {p : Option Addr} {nb c : Nat} (h : ModelAt W base mB k p nb c) (hB : Below W.heap.size W W') : ModelAt W' base mB k p nb c := by
  obtain ⟨v, y, cs, h1, h2, h3⟩ := h.at_
  exact ⟨v, y, cs, below_block h1 hB, own_belowT h2 hB, h3⟩
theorem ModelAt.but {W W' : World} {base mB k : Nat} {p : Option Addr} {nb c : Nat} {S : Nat → Prop} (h : ModelAt W base mB k p nb c) (hb : But S W W') (hS : ∀ g cs t fr, W.heap[g]? = some (.cells cs t fr) → t = 40 ∨ t = 35 → ¬ S g) : ModelAt W' base mB k p nb c := by
  obtain ⟨v, y, cs, h1, h2, h3⟩ := h.at_
  refine ⟨v, y, cs, (hb.block mB (Array.getElem?_eq_some_iff.1 h1).1 (hS _ _ _ _ h1 (.inl rfl))).trans h1, ⟨h2.1, ?_⟩, h3⟩
  rcases h2.2 with h0 | ⟨g, cap, cur, e, hg, hblk, r⟩
  · exact .inl h0
  · exact .inr ⟨g, cap, cur, e, hg, (hb.block g (Array.getElem?_eq_some_iff.1 hblk).1 (hS _ _ _ _ hblk (.inr rfl))).trans hblk, r⟩
/-- What now reads. -/
theorem ModelAt.last {W : World} {base mB k : Nat} {p : Option Addr} {nb c : Nat} (h : ModelAt W base mB k p nb c) : ∃ g cg, W.cell? ⟨mB, 0, none⟩ = some (.slice (some ⟨g, 0, none⟩) (k + 1) cg) ∧ W.cell? ⟨g, k, none⟩ = some (.slice p nb c) := by
  obtain ⟨v, y, cs, h1, h2, h3⟩ := h.at_
  obtain ⟨g, cap, rfl, _, _⟩ := h2.form (Nat.succ_pos _)
  refine ⟨g, cap, by have := cellOf h1 0; simpa using this, ?_⟩
  rw [h2.cellAt k (by omega), List.getElem?_append_right (by omega), h3, Nat.sub_self]
  rfl

/-- A volume is kept where nothing of its own, no bytes and no device's block is turned. -/
theorem VI.but {w w' : World} {s : VS} (h : VI w s) {S : Nat → Prop} (hb : But S w w') (hS : ∀ k, s.mine k → ¬ S k) (h5 : ∀ g cs t fr, w.heap[g]? = some (.cells cs t fr) → t = 5 ∨ t = 237 → ¬ S g) : VI w' s :=
  ⟨h.vol.but hb (hS _ (.inl rfl)), h.dev.but hb (fun k hk => hS k (.inr (.inr hk))) (fun g _ hg => h5 g _ _ _ hg (.inr rfl)), h.fresh.but hb (hS _ (.inr (.inl rfl))) (fun k cs fr hk => h5 k cs 5 fr hk (.inl rfl)), h.fm, h.fused, h.n16, h.n200, h.lg⟩

/-- The model takes one row more. -/
theorem ModelAt.push {W W' : World} {base mB k : Nat} {p' : Option Addr} {nb c' : Nat} {v v' y : Value} {cs : List Value} (hm : W.heap[mB]? = some (.cells #[v, y] 40 (0, 0))) (hcs : cs.length = k + 1) (hown : W'.ownsRow base 35 1 v' (k + 1 + 1) (cs ++ [.slice p' nb c'])) (hg : W.grownBy W' v.ownBlock)
    (hv : ∀ g cs' t fr, v.ownBlock = some g → W.heap[g]? = some (.cells cs' t fr) → t = 35) : ModelAt (W'.setCell ⟨mB, 0, none⟩ v') base mB (k + 1) p' nb c' := by
  have hm' : W'.heap[mB]? = some (.cells #[v, y] 40 (0, 0)) := (hg.block mB (Array.getElem?_eq_some_iff.1 hm).1 (fun e => absurd (hv mB _ _ _ e.symm hm) (by decide))).trans hm
  refine ⟨v', y, cs, by simp [World.setCell, Array.getElem?_modify, hm'], ⟨hown.1, ?_⟩, hcs⟩
  rcases hown.2 with h0 | ⟨g, cap, cur, e, hb, hblk, r⟩
  · exact .inl h0
  · refine .inr ⟨g, cap, cur, e, hb, (Below.heap_setCell W' ⟨mB, 0, none⟩ _ g ?_).trans hblk, r⟩
    show g ≠ mB
    exact cell_ne_tag hblk hm' (by decide)

end Go.Proofs.YtphedokdckoccaaGreatDoor

/-
  A region that draws its order: one proof for each operation, whatever the order; the frame as what each operation has yielded.
-/
namespace Go.Proofs.YtphedokdckoccaaGreatDoor
open Go.RowKit Go.Maps Go.Sort Go.Shelf

/-- Where operation k writes. -/
def slotOf (ops : Array Oper) (k : Nat) : Option Tmp := (ops[k]?).bind (·.dst)

/-- The frame: each operation that is done has written its value. -/
def lay (base : Array Value) (ops : Array Oper) (val : Nat → Value) (b : Nat → Bool) : Nat → Array Value
  | 0 => base
  | k + 1 => match slotOf ops k with
    | some s => if b k = true then (lay base ops val b k).setIfInBounds s (val k) else lay base ops val b k
    | none => lay base ops val b k

/-- No two operations write one place, and each place is there. -/
def apartB (ops : Array Oper) (m : Nat) : Bool := (List.range ops.size).all fun i => match slotOf ops i with
  | some s => decide (s < m) && (List.range ops.size).all fun j => j == i || slotOf ops j != some s
  | none => true
theorem apart_lt {ops : Array Oper} {m i s : Nat} (h : apartB ops m = true) (hi : slotOf ops i = some s) : s < m ∧ ∀ j, j ≠ i → slotOf ops j ≠ some s := by
  have hlt : i < ops.size := by
    by_cases hx : i < ops.size
    · exact hx
    · unfold slotOf at hi
      rw [Array.getElem?_eq_none (by omega)] at hi
      cases hi
  have := (List.all_eq_true.1 h) i (List.mem_range.2 hlt)
  rw [hi] at this
  simp only [Bool.and_eq_true, decide_eq_true_eq] at this
  refine ⟨this.1, fun j hj e => ?_⟩
  have hjlt : j < ops.size := by
    by_cases hx : j < ops.size
    · exact hx
    · unfold slotOf at e
      rw [Array.getElem?_eq_none (by omega)] at e
      cases e
  have := (List.all_eq_true.1 this.2) j (List.mem_range.2 hjlt)
  simp [hj, e] at this

section
variable {base : Array Value} {ops : Array Oper} {val : Nat → Value} {b : Nat → Bool}
theorem lay_size (n : Nat) : (lay base ops val b n).size = base.size := by
  induction n with
  | zero => rfl
  | succ k ih =>
    unfold lay
    split
    · split
      · simpa using ih
      · exact ih
    · exact ih
theorem lay_out (n : Nat) {s : Nat} (h : ∀ j, slotOf ops j ≠ some s) : (lay base ops val b n)[s]? = base[s]? := by
  induction n with
  | zero => rfl
  | succ k ih =>
    unfold lay
    split
    · rename_i t ht
      split
      · rw [Array.getElem?_setIfInBounds_ne (fun e => h k (by rw [ht, e]))]; exact ih
      · exact ih
    · exact ih
theorem lay_in (n : Nat) {i s : Nat} (hi : slotOf ops i = some s) (hn : i < n) (hs : s < base.size) (ha : ∀ j, j ≠ i → slotOf ops j ≠ some s) (hb : b i = true) : (lay base ops val b n)[s]? = some (val i) := by
  induction n with
  | zero => omega
  | succ k ih =>
    by_cases hk : k = i
    · subst hk
      unfold lay
      simp only [hi, hb, if_true]
      rw [Array.getElem?_setIfInBounds_self_of_lt (by rw [lay_size]; exact hs)]
    · unfold lay
      split
      · rename_i t ht
        split
        · rw [Array.getElem?_setIfInBounds_ne (fun e => ha k hk (by rw [ht, e]))]; exact ih (by omega)
        · exact ih (by omega)
      · exact ih (by omega)
theorem lay_did (n : Nat) {i s : Nat} (hi : slotOf ops i = some s) (hn : i < n) (ha : ∀ j, j ≠ i → slotOf ops j ≠ some s) (hb : b i = false) :
    lay base ops val (did b i) n = (lay base ops val b n).setIfInBounds s (val i) := by
  have low : ∀ k, k ≤ i → lay base ops val (did b i) k = lay base ops val b k := by
    intro k
    induction k with
    | zero => intro _; rfl
    | succ k ih =>
      intro hk
      unfold lay
      rw [ih (by omega)]
      have : did b i k = b k := by unfold did; rw [if_neg (by omega)]
      rw [this]
  induction n with
  | zero => omega
  | succ k ih =>
    by_cases hk : k = i
    · subst hk
      unfold lay
      rw [low k (Nat.le_refl _)]
      simp [hi, did, hb]
    · have hd : did b i k = b k := by unfold did; rw [if_neg hk]
      unfold lay
      rw [ih (by omega), hd]
      split
      · rename_i t ht
        split
        · apply Array.ext_getElem?
          intro x
          have hst : t ≠ s := fun e => ha k hk (by rw [ht, e])
          simp only [Array.getElem?_setIfInBounds, Array.size_setIfInBounds]
          by_cases h1 : t = x
          · have h2 : ¬ s = x := fun e => hst (h1.trans e.symm)
            simp [h1, h2]
          · simp [h1]
        · rfl
      · rfl
theorem lay_none (n : Nat) {i : Nat} (hi : slotOf ops i = none) : lay base ops val (did b i) n = lay base ops val b n := by
  induction n with
  | zero => rfl
  | succ k ih =>
    unfold lay
    rw [ih]
    by_cases hk : k = i
    · subst hk; simp [hi]
    · have hd : did b i k = b k := by unfold did; rw [if_neg hk]
      rw [hd]
end

/-- What the frame tells of the place that operation j wrote. -/
theorem lay_eval {base : Array Value} {ops : Array Oper} {val : Nat → Value} {b : Nat → Bool} {d : List Deferred} {m : Nat} (hsz : base.size = m) (hap : apartB ops m = true) (j s : Nat) (hs : slotOf ops j = some s) (hb : b j = true) :
    Act.eval ⟨lay base ops val b ops.size, d⟩ (.tmp s) = val j := by
  subst hsz
  obtain ⟨h1, h2⟩ := apart_lt hap hs
  have hlt : j < ops.size := by
    by_cases hx : j < ops.size
    · exact hx
    · unfold slotOf at hs
      rw [Array.getElem?_eq_none (by omega)] at hs
      cases hs
  have := lay_in (val := val) ops.size hs hlt h1 h2 hb
  show (lay base ops val b ops.size).getD s undef = _
  rw [Array.getD_eq_getD_getElem?, this]
  rfl
/-- .. and of a place that none writes. -/
def noneB (ops : Array Oper) (s : Nat) : Bool := (List.range ops.size).all fun i => slotOf ops i != some s
theorem lay_keep {base : Array Value} {ops : Array Oper} {val : Nat → Value} {b : Nat → Bool} {d : List Deferred} (s : Nat) (h : noneB ops s = true) :
    Act.eval ⟨lay base ops val b ops.size, d⟩ (.tmp s) = base.getD s undef := by
  have h' : ∀ j, slotOf ops j ≠ some s := by
    intro j e
    have hlt : j < ops.size := by
      by_cases hx : j < ops.size
      · exact hx
      · unfold slotOf at e
        rw [Array.getElem?_eq_none (by omega)] at e
        cases e
    have := (List.all_eq_true.1 h) j (List.mem_range.2 hlt)
    simp [e] at this
  show (lay base ops val b ops.size).getD s undef = _
  rw [Array.getD_eq_getD_getElem?, lay_out ops.size h', Array.getD_eq_getD_getElem?]
/-- .. and of a place that is not yet written. -/
theorem lay_till {base : Array Value} {ops : Array Oper} {val : Nat → Value} {b : Nat → Bool} {s : Nat} (h : ∀ j, slotOf ops j = some s → b j = false) : ∀ n, (lay base ops val b n)[s]? = base[s]?
  | 0 => rfl
  | k + 1 => by
    unfold lay
    split
    · rename_i t ht
      split
      · rename_i hb
        have hne : t ≠ s := by
          intro e
          subst e
          rw [h k ht] at hb
          cases hb
        rw [Array.getElem?_setIfInBounds, if_neg hne]
        exact lay_till h k
      · exact lay_till h k
    · exact lay_till h k
def oneB (ops : Array Oper) (s j : Nat) : Bool := (List.range ops.size).all fun i => i == j || slotOf ops i != some s
theorem one_till {ops : Array Oper} {s j : Nat} {b : Nat → Bool} (h : oneB ops s j = true) (hb : b j = false) : ∀ i, slotOf ops i = some s → b i = false := by
  intro i e
  have hlt : i < ops.size := by
    by_cases hx : i < ops.size
    · exact hx
    · unfold slotOf at e
      rw [Array.getElem?_eq_none (by omega)] at e
      cases e
  have := (List.all_eq_true.1 h) i (List.mem_range.2 hlt)
  simp [e] at this
  rw [this]
  exact hb
theorem none_till {ops : Array Oper} {s : Nat} {b : Nat → Bool} (h : noneB ops s = true) : ∀ i, slotOf ops i = some s → b i = false := by
  intro i e
  have hlt : i < ops.size := by
    by_cases hx : i < ops.size
    · exact hx
    · unfold slotOf at e
      rw [Array.getElem?_eq_none (by omega)] at e
      cases e
  have := (List.all_eq_true.1 h) i (List.mem_range.2 hlt)
  simp [e] at this
/-- A guard that is decided. -/
theorem lay_yield {base : Array Value} {ops : Array Oper} {val : Nat → Value} {b : Nat → Bool} {m : Nat} (hsz : base.size = m) (hap : apartB ops m = true) (j s : Nat) (x : Bool) (hs : slotOf ops j = some s) (hb : b j = true) (hv : val j = .bool x) :
    yielded ops (lay base ops val b ops.size) j = some x := by
  subst hsz
  obtain ⟨h1, h2⟩ := apart_lt hap hs
  have hlt : j < ops.size := by
    by_cases hx : j < ops.size
    · exact hx
    · unfold slotOf at hs
      rw [Array.getElem?_eq_none (by omega)] at hs
      cases hs
  have := lay_in (val := val) ops.size hs hlt h1 h2 hb
  unfold yielded
  have e : (ops[j]?).bind (·.dst) = some s := hs
  rw [e, Option.bind_some, this, hv]

/-- The value of operation k, out of a list. -/
def vals (L : List (Option Tmp × Value)) (k : Nat) : Value := (L.getD k (none, undef)).2
/-- All of them written. -/
def putAll (base : Array Value) : List (Option Tmp × Value) → Array Value
  | [] => base
  | (some s, v) :: r => putAll (base.setIfInBounds s v) r
  | (none, _) :: r => putAll base r
theorem putAll_snoc (L : List (Option Tmp × Value)) (x : Option Tmp × Value) : ∀ base, putAll base (L ++ [x]) = match x with | (some s, v) => (putAll base L).setIfInBounds s v | (none, _) => putAll base L := by
  induction L with
  | nil => intro base; obtain ⟨s, v⟩ := x; cases s <;> rfl
  | cons y L ih =>
    intro base
    obtain ⟨s, v⟩ := y
    cases s
    · exact ih base
    · exact ih _
theorem lay_all {base : Array Value} {ops : Array Oper} {L : List (Option Tmp × Value)} (hL : L.map (·.1) = ops.toList.map (·.dst)) : lay base ops (vals L) (fun _ => true) ops.size = putAll base L := by
  have hlen : L.length = ops.size := by
    have := congrArg List.length hL
    simpa using this
  have key : ∀ n, n ≤ ops.size → lay base ops (vals L) (fun _ => true) n = putAll base (L.take n) := by
    intro n
    induction n with
    | zero => intro _; rfl
    | succ k ih =>
      intro hk
      have hkL : k < L.length := by omega
      have hsl : slotOf ops k = (L[k]).1 := by
        have h1 : (L.map (·.1))[k]? = (ops.toList.map (·.dst))[k]? := by rw [hL]
        rw [List.getElem?_map, List.getElem?_map, List.getElem?_eq_getElem hkL] at h1
        have h2 : ops.toList[k]? = ops[k]? := by simp
        rw [h2] at h1
        unfold slotOf
        rw [Array.getElem?_eq_getElem (by omega)] at h1 ⊢
        simpa using h1.symm
      have hv : vals L k = (L[k]).2 := by
        unfold vals
        rw [List.getD, List.getElem?_eq_getElem hkL]
        rfl
      rw [List.take_add_one, List.getElem?_eq_getElem hkL, Option.toList_some, putAll_snoc, ← ih (by omega)]
      have e : lay base ops (vals L) (fun _ => true) (k + 1) = match slotOf ops k with
        | some s => if true = true then (lay base ops (vals L) (fun _ => true) k).setIfInBounds s (vals L k) else lay base ops (vals L) (fun _ => true) k
        | none => lay base ops (vals L) (fun _ => true) k := rfl
      rw [e, hsl, hv]
      cases h : L[k] with
      | mk s v => cases s <;> simp
  rw [key _ (Nat.le_refl _), List.take_of_length_le (by omega)]

/-- What one operation does. -/
inductive Does (P : Program) (ops : Array Oper) (a : Act) (w : World) (o : Oper) (v : Value) (K : World → Prop) : Prop
  | value (w' : World) (hw : Region.wanted o (yielded ops a.tmps) = true) (hnd : ∀ c, o.op ≠ .defer c) (hrun : (execOp a.eval o).run P w = .ok (.value v) w') (hK : K w')
  | call (f : FuncId) (args : Array Value) (hw : Region.wanted o (yielded ops a.tmps) = true) (hnd : ∀ c, o.op ≠ .defer c) (hrun : (execOp a.eval o).run P w = .ok (.enter f args) w)
      (hc : Calls P f args w fun e w'' => e = .returned v ∧ K w'')
  | pass (hw : Region.wanted o (yielded ops a.tmps) = false) (hv : v = undef) (hK : K w)

section
variable {P : Program} {ops : Array Oper} {a : Act} {w w' : World} {o : Oper} {v : Value} {K : World → Prop}
theorem does_value (hg : o.guard = none) (hnd : ∀ c, o.op ≠ .defer c) (hrun : (execOp a.eval o).run P w = .ok (.value v) w') (hK : K w') : Does P ops a w o v K :=
  .value w' (by unfold Region.wanted; rw [hg]) hnd hrun hK
theorem does_value_g {j : Nat} {x : Bool} (hg : o.guard = some (j, x)) (hy : yielded ops a.tmps j = some x) (hnd : ∀ c, o.op ≠ .defer c) (hrun : (execOp a.eval o).run P w = .ok (.value v) w') (hK : K w') : Does P ops a w o v K :=
  .value w' (by unfold Region.wanted; rw [hg]; simp [hy]) hnd hrun hK
theorem does_call {f : FuncId} {args : Array Value} (hg : o.guard = none) (hnd : ∀ c, o.op ≠ .defer c) (hrun : (execOp a.eval o).run P w = .ok (.enter f args) w) (hc : Calls P f args w fun e w'' => e = .returned v ∧ K w'') : Does P ops a w o v K :=
  .call f args (by unfold Region.wanted; rw [hg]) hnd hrun hc
theorem does_call_g {j : Nat} {x : Bool} {f : FuncId} {args : Array Value} (hg : o.guard = some (j, x)) (hy : yielded ops a.tmps j = some x) (hnd : ∀ c, o.op ≠ .defer c) (hrun : (execOp a.eval o).run P w = .ok (.enter f args) w) (hc : Calls P f args w fun e w'' => e = .returned v ∧ K w'') : Does P ops a w o v K :=
  .call f args (by unfold Region.wanted; rw [hg]; simp [hy]) hnd hrun hc
theorem does_pass {j : Nat} {x y : Bool} (hg : o.guard = some (j, x)) (hy : yielded ops a.tmps j = some y) (hne : x ≠ y) (hv : v = undef) (hK : K w) : Does P ops a w o v K :=
  .pass (by unfold Region.wanted; rw [hg]; simp [hy]; exact fun e => hne e.symm) hv hK
theorem does_pass_none {j : Nat} {x : Bool} (hg : o.guard = some (j, x)) (hy : yielded ops a.tmps j = none) (hv : v = undef) (hK : K w) : Does P ops a w o v K :=
  .pass (by unfold Region.wanted; rw [hg]; simp [hy]) hv hK
end

/-- The region, whatever the order: St tells of the world, by what is done. -/
theorem region_laid {P : Program} {id : Nat} {ops : Array Oper} {Q : Exit → Act → World → Prop} {base : Array Value} {d : List Deferred} {w0 : World} (hm : P.follows .mixedOrders = true)
    (hdep : inRow ops = true) (m : Nat) (hsz : base.size = m) (hap : apartB ops m = true) (L : List (Option Tmp × Value)) (hL : L.map (·.1) = ops.toList.map (·.dst)) (St : (Nat → Bool) → World → Prop)
    (h0 : St (fun _ => false) w0.drew)
    (hstep : ∀ b w (i : Nat) (o : Oper) (a : Act), St b w → (∀ (j : Nat) (u : Oper), ops[j]? = some u → b j = true → ∀ e ∈ u.after.toList, Region.binds .any e = true → b e.on = true) → ops[i]? = some o → b i = false →
      (∀ e ∈ o.after.toList, Region.binds .any e = true → b e.on = true) →
      (∀ j s, slotOf ops j = some s → b j = true → a.tmps[s]?.getD undef = vals L j) → (∀ s, noneB ops s = true → a.tmps[s]?.getD undef = base.getD s undef) → (∀ j s x, slotOf ops j = some s → b j = true → vals L j = .bool x → yielded ops a.tmps j = some x) →
      Does P ops a w o (vals L i) (St (did b i)))
    (hend : ∀ b w, St b w → (∀ i, i < ops.size → b i = true) → Q .normal ⟨putAll base L, d⟩ w) :
    (Code.region id ops true).wp P Q ⟨base, d⟩ w0 := by
  subst hsz
  rw [← lay_all hL] at hend
  refine (wpIn_wide (n := 6)).1 ?_
  refine region_done hm hdep (fun b a w => a = ⟨lay base ops (vals L) b ops.size, d⟩ ∧ St b w) ⟨?_, h0⟩ ?_ ?_
  · have : ∀ n, lay base ops (vals L) (fun _ => false) n = base := by
      intro n
      induction n with
      | zero => rfl
      | succ k ih => unfold lay; split <;> simp [ih]
    rw [this]
  · rintro b a w i o ⟨rfl, hS⟩ hcl ho hb hd
    have hlt := (Array.getElem?_eq_some_iff.1 ho).1
    have hput : ∀ w', St (did b i) w' → (Act.put ⟨lay base ops (vals L) b ops.size, d⟩ o.dst (vals L i)) = ⟨lay base ops (vals L) (did b i) ops.size, d⟩ ∧ St (did b i) w' := by
      intro w' h
      refine ⟨?_, h⟩
      cases hdst : o.dst with
      | none =>
        have hsl : slotOf ops i = none := by unfold slotOf; rw [ho]; exact hdst
        rw [lay_none ops.size hsl]
        rfl
      | some s =>
        have hsl : slotOf ops i = some s := by unfold slotOf; rw [ho]; exact hdst
        obtain ⟨_, h2⟩ := apart_lt hap hsl
        rw [lay_did ops.size hsl hlt h2 hb]
        rfl
    unfold wpOpIn
    rw [ho]
    cases hstep b w i o _ hS hcl ho hb hd (fun j s h1 h2 => by rw [← Array.getD_eq_getD_getElem?]; exact lay_eval (d := d) rfl hap j s h1 h2) (fun s h => by rw [← Array.getD_eq_getD_getElem?]; exact lay_keep (d := d) s h) (fun j s x h1 h2 h3 => lay_yield rfl hap j s x h1 h2 h3) with
    | value w' hw hnd hrun hK =>
      simp only [hw, if_true]
      refine ⟨fun _ _ => trivial, ?_⟩
      rw [Oper.semAt_plain _ _ _ hnd, hrun]
      exact hput _ hK
    | call f args hw hnd hrun hc =>
      simp only [hw, if_true]
      refine ⟨fun _ _ => trivial, ?_⟩
      rw [Oper.semAt_plain _ _ _ hnd, hrun]
      refine ⟨fun h => by simp [Fence.wide] at h, ?_⟩
      refine callsIn_wide.2 (hc.mono ?_)
      rintro e w'' ⟨rfl, hK⟩
      exact hput _ hK
    | pass hw hv hK =>
      simp only [hw, Bool.false_eq_true, if_false]
      refine ⟨fun _ _ => trivial, ?_⟩
      rw [← hv]
      exact hput _ hK
  · rintro b a w ⟨rfl, hS⟩ hall
    have e : lay base ops (vals L) b ops.size = lay base ops (vals L) (fun _ => true) ops.size := by
      have : ∀ n, n ≤ ops.size → lay base ops (vals L) b n = lay base ops (vals L) (fun _ => true) n := by
        intro n
        induction n with
        | zero => intro _; rfl
        | succ k ih => intro hk; unfold lay; rw [ih (by omega), hall k (by omega)]
      exact this _ (Nat.le_refl _)
    rw [e]
    exact hend b w hS hall

/-- What one operation does, its value and the world as they come. -/
inductive Doesg (P : Program) (ops : Array Oper) (a : Act) (w : World) (o : Oper) (K : Value → World → Prop) : Prop
  | value (v : Value) (w' : World) (hw : Region.wanted o (yielded ops a.tmps) = true) (hnd : ∀ c, o.op ≠ .defer c) (hrun : (execOp a.eval o).run P w = .ok (.value v) w') (hK : K v w')
  | call (f : FuncId) (args : Array Value) (hw : Region.wanted o (yielded ops a.tmps) = true) (hnd : ∀ c, o.op ≠ .defer c) (hrun : (execOp a.eval o).run P w = .ok (.enter f args) w)
      (hc : Calls P f args w fun e w'' => ∃ v, e = .returned v ∧ K v w'')
  | skip (w' : World) (hw : Region.wanted o (yielded ops a.tmps) = true) (hnd : ∀ c, o.op ≠ .defer c) (hrun : (execOp a.eval o).run P w = .ok .skip w') (hK : K undef w')
  | pass (hw : Region.wanted o (yielded ops a.tmps) = false) (hK : K undef w)

section
variable {P : Program} {ops : Array Oper} {a : Act} {w w' : World} {o : Oper} {v : Value} {K : Value → World → Prop}
theorem doesg_value (hg : o.guard = none) (hnd : ∀ c, o.op ≠ .defer c) (hrun : (execOp a.eval o).run P w = .ok (.value v) w') (hK : K v w') : Doesg P ops a w o K :=
  .value v w' (by unfold Region.wanted; rw [hg]) hnd hrun hK
theorem doesg_value_g {j : Nat} {x : Bool} (hg : o.guard = some (j, x)) (hy : yielded ops a.tmps j = some x) (hnd : ∀ c, o.op ≠ .defer c) (hrun : (execOp a.eval o).run P w = .ok (.value v) w') (hK : K v w') : Doesg P ops a w o K :=
  .value v w' (by unfold Region.wanted; rw [hg]; simp [hy]) hnd hrun hK
theorem doesg_skip (hg : o.guard = none) (hnd : ∀ c, o.op ≠ .defer c) (hrun : (execOp a.eval o).run P w = .ok .skip w') (hK : K undef w') : Doesg P ops a w o K :=
  .skip w' (by unfold Region.wanted; rw [hg]) hnd hrun hK
theorem doesg_call {f : FuncId} {args : Array Value} (hg : o.guard = none) (hnd : ∀ c, o.op ≠ .defer c) (hrun : (execOp a.eval o).run P w = .ok (.enter f args) w) (hc : Calls P f args w fun e w'' => ∃ v, e = .returned v ∧ K v w'') : Doesg P ops a w o K :=
  .call f args (by unfold Region.wanted; rw [hg]) hnd hrun hc
end

theorem lay_congr {base : Array Value} {ops : Array Oper} {val val' : Nat → Value} {b : Nat → Bool} (h : ∀ j, b j = true → val' j = val j) (n : Nat) : lay base ops val' b n = lay base ops val b n := by
  induction n with
  | zero => rfl
  | succ k ih =>
    unfold lay
    split
    · split
      · rename_i hb
        rw [ih, h k hb]
      · exact ih
    · exact ih

/-- The region, whatever the order, where what is yielded shows on the way: g tells it. -/
theorem region_laidg {P : Program} {id : Nat} {ops : Array Oper} {Q : Exit → Act → World → Prop} {base : Array Value} {d : List Deferred} {w0 : World} (hm : P.follows .mixedOrders = true)
    (hdep : inRow ops = true) (m : Nat) (hsz : base.size = m) (hap : apartB ops m = true) {G : Type} (g0 : G) (L : G → List (Option Tmp × Value)) (hL : ∀ g, (L g).map (·.1) = ops.toList.map (·.dst)) (St : G → (Nat → Bool) → World → Prop)
    (h0 : St g0 (fun _ => false) w0.drew)
    (hstep : ∀ g b w (i : Nat) (o : Oper) (a : Act), St g b w → (∀ (j : Nat) (u : Oper), ops[j]? = some u → b j = true → ∀ e ∈ u.after.toList, Region.binds .any e = true → b e.on = true) → ops[i]? = some o → b i = false →
      (∀ e ∈ o.after.toList, Region.binds .any e = true → b e.on = true) →
      (∀ j s, slotOf ops j = some s → b j = true → a.tmps[s]?.getD undef = vals (L g) j) → (∀ s, (∀ j, slotOf ops j = some s → b j = false) → a.tmps[s]?.getD undef = base.getD s undef) → (∀ j s x, slotOf ops j = some s → b j = true → vals (L g) j = .bool x → yielded ops a.tmps j = some x) →
      Doesg P ops a w o (fun v w' => ∃ g', (∀ j, b j = true → vals (L g') j = vals (L g) j) ∧ v = vals (L g') i ∧ St g' (did b i) w'))
    (hend : ∀ g b w, St g b w → (∀ i, i < ops.size → b i = true) → Q .normal ⟨putAll base (L g), d⟩ w) :
    (Code.region id ops true).wp P Q ⟨base, d⟩ w0 := by
  subst hsz
  refine (wpIn_wide (n := 6)).1 ?_
  refine region_done hm hdep (fun b a w => ∃ g, a = ⟨lay base ops (vals (L g)) b ops.size, d⟩ ∧ St g b w) ⟨g0, ?_, h0⟩ ?_ ?_
  · have : ∀ n, lay base ops (vals (L g0)) (fun _ => false) n = base := by
      intro n
      induction n with
      | zero => rfl
      | succ k ih => unfold lay; split <;> simp [ih]
    rw [this]
  · rintro b a w i o ⟨g, rfl, hS⟩ hcl ho hb hd
    have hlt := (Array.getElem?_eq_some_iff.1 ho).1
    have hput : ∀ v w', (∃ g', (∀ j, b j = true → vals (L g') j = vals (L g) j) ∧ v = vals (L g') i ∧ St g' (did b i) w') → ∃ g', (Act.put ⟨lay base ops (vals (L g)) b ops.size, d⟩ o.dst v) = ⟨lay base ops (vals (L g')) (did b i) ops.size, d⟩ ∧ St g' (did b i) w' := by
      rintro v w' ⟨g', hc, rfl, h⟩
      refine ⟨g', ?_, h⟩
      rw [← lay_congr hc]
      cases hdst : o.dst with
      | none =>
        have hsl : slotOf ops i = none := by unfold slotOf; rw [ho]; exact hdst
        rw [lay_none ops.size hsl]
        rfl
      | some s =>
        have hsl : slotOf ops i = some s := by unfold slotOf; rw [ho]; exact hdst
        obtain ⟨_, h2⟩ := apart_lt hap hsl
        rw [lay_did ops.size hsl hlt h2 hb]
        rfl
    unfold wpOpIn
    rw [ho]
    cases hstep g b w i o _ hS hcl ho hb hd (fun j s h1 h2 => by rw [← Array.getD_eq_getD_getElem?]; exact lay_eval (d := d) rfl hap j s h1 h2) (fun s h => by rw [lay_till h ops.size, Array.getD_eq_getD_getElem?]) (fun j s x h1 h2 h3 => lay_yield rfl hap j s x h1 h2 h3) with
    | value v w' hw hnd hrun hK =>
      simp only [hw, if_true]
      refine ⟨fun _ _ => trivial, ?_⟩
      rw [Oper.semAt_plain _ _ _ hnd, hrun]
      exact hput _ _ hK
    | call f args hw hnd hrun hc =>
      simp only [hw, if_true]
      refine ⟨fun _ _ => trivial, ?_⟩
      rw [Oper.semAt_plain _ _ _ hnd, hrun]
      refine ⟨fun h => by simp [Fence.wide] at h, ?_⟩
      refine callsIn_wide.2 (hc.mono ?_)
      rintro e w'' ⟨v, rfl, hK⟩
      exact hput _ _ hK
    | skip w' hw hnd hrun hK =>
      simp only [hw, if_true]
      refine ⟨fun _ _ => trivial, ?_⟩
      rw [Oper.semAt_plain _ _ _ hnd, hrun]
      exact hput _ _ hK
    | pass hw hK =>
      simp only [hw, Bool.false_eq_true, if_false]
      refine ⟨fun _ _ => trivial, ?_⟩
      exact hput _ _ hK
  · rintro b a w ⟨g, rfl, hS⟩ hall
    have e : lay base ops (vals (L g)) b ops.size = putAll base (L g) := by
      rw [← lay_all (hL g)]
      have : ∀ n, n ≤ ops.size → lay base ops (vals (L g)) b n = lay base ops (vals (L g)) (fun _ => true) n := by
        intro n
        induction n with
        | zero => intro _; rfl
        | succ k ih => intro hk; unfold lay; rw [ih (by omega), hall k (by omega)]
      exact this _ (Nat.le_refl _)
    rw [e]
    exact hend g b w hS hall

end Go.Proofs.YtphedokdckoccaaGreatDoor

/-
  puts of the law's package: a commit's list.
-/
namespace Go.Proofs.YtphedokdckoccaaGreatDoor
open Go.RowKit Go.Maps Go.Sort Go.Shelf

/-- A put of the law: a block, the bytes that are written over and over, whether it is short. -/
structure LP where
  block : Int
  at_ : Option Addr
  cap : Nat
  b : By
  short : Bool
def LP.n (x : LP) : Nat := if x.short = true then 100 else 512
def LP.full (x : LP) : By := fullB x.b x.n
theorem LP.full_length (x : LP) : x.full.length = x.n := fullB_length _ _
def LPutsAt (w : World) (q : Option Addr) (ps : List LP) : Prop :=
  (0 < ps.length → ∃ g o, q = some ⟨g, o, none⟩ ∧ ∀ (j : Nat) (x : LP), ps[j]? = some x → w.cell? ⟨g, o + j * 3, none⟩ = some (.int .i64 x.block) ∧ w.cell? ⟨g, o + j * 3 + 1, none⟩ = some (.slice x.at_ x.b.length x.cap) ∧ w.cell? ⟨g, o + j * 3 + 2, none⟩ = some (.bool x.short)) ∧
  ∀ (j : Nat) (x : LP), ps[j]? = some x → x.b.length < 9223372036854775808 ∧ Bytes w x.at_ x.b
theorem LPutsAt.below {w w' : World} {q : Option Addr} {ps : List LP} (h : LPutsAt w q ps) (hb : Below w.heap.size w w') : LPutsAt w' q ps := by
  refine ⟨fun hl => ?_, fun j x hj => ⟨(h.2 j x hj).1, below_bytes hb (h.2 j x hj).2⟩⟩
  obtain ⟨g, o, e, hx⟩ := h.1 hl
  refine ⟨g, o, e, fun j x hj => ?_⟩
  obtain ⟨h1, h2, h3⟩ := hx j x hj
  exact ⟨(hb.cell (p := ⟨g, o + j * 3, none⟩) (cell_lt h1)).trans h1, (hb.cell (p := ⟨g, o + j * 3 + 1, none⟩) (cell_lt h2)).trans h2, (hb.cell (p := ⟨g, o + j * 3 + 2, none⟩) (cell_lt h3)).trans h3⟩

/-- The put that is made of it. -/
def pmL (ps : List LP) (gs : List Nat) (j : Nat) : PutM := match ps[j]? with
  | some x => ⟨x.block, some ⟨gs.getD j 0, 0, none⟩, x.n, x.full⟩
  | none => ⟨0, none, 0, []⟩
theorem pmL_snoc (ps : List LP) (gs : List Nat) (y j : Nat) (h : j < gs.length) : pmL ps (gs ++ [y]) j = pmL ps gs j := by
  unfold pmL; rw [getD_snoc gs y j h]
theorem pmL_cells (ps : List LP) (gs : List Nat) (y : Nat) (x : LP) (hx : ps[gs.length]? = some x) : ((List.range (gs ++ [y]).length).map fun j => putCells (pmL ps (gs ++ [y]) j)).flatten =
    ((List.range gs.length).map fun j => putCells (pmL ps gs j)).flatten ++ [.int .i64 x.block, .slice (some ⟨y, 0, none⟩) x.n x.n] := by
  have hl : (gs ++ [y]).length = gs.length + 1 := by simp
  rw [hl, List.range_succ, List.map_append, List.flatten_append]
  congr 1
  · congr 1
    apply List.map_congr_left
    intro j hj
    rw [pmL_snoc ps gs y j (List.mem_range.1 hj)]
  · simp only [List.map_cons, List.map_nil, List.flatten_cons, List.flatten_nil, List.append_nil]
    unfold pmL putCells
    rw [hx, getD_last]
    simp [LP.full_length]

/-- k puts are made. -/
structure PInv (w0 W : World) (ps : List LP) (lv : Value) (gs : List Nat) : Prop where
  puts : W.ownsRow w0.heap.size 91 2 lv gs.length (((List.range gs.length).map fun j => putCells (pmL ps gs j)).flatten)
  blk : ∀ (j : Nat) (x : LP), j < gs.length → ps[j]? = some x → W.heap[gs.getD j 0]? = some (.cells (x.full.map u8v).toArray 5 (0, 0))
  below : Below w0.heap.size w0 W
  zero : gs.length = 0 → lv = .slice none 0 0

theorem own_low {base : Nat} {e : TypeId} {size : Nat} {v : Value} {n : Nat} {xs : List Value} {V : World} (hr : V.ownsRow base e size v n xs) (g : Nat) (hg : v.ownBlock = some g) : base ≤ g := by
  rcases hr.2 with ⟨rfl, _⟩ | ⟨g', cap, cur, rfl, hb, _⟩
  · simp [Value.ownBlock] at hg
  · have : g' = g := by simpa [Value.ownBlock] using hg
    omega

/-- The bytes are there. -/
structure F3 (wr W : World) (x : LP) : Prop where
  bel : Below wr.heap.size wr W
  blk : W.heap[wr.heap.size]? = some (.cells (x.full.map u8v).toArray 5 (0, 0))

theorem PInv.snoc {w0 wr w3 W : World} {ps : List LP} {lv v' : Value} {gs : List Nat} {x : LP} {o1 : Obj} (h : PInv w0 wr ps lv gs) (hx : ps[gs.length]? = some x) (h3 : F3 wr w3 x) (hg : (w3.alloc o1).grownBy W lv.ownBlock)
    (hown : W.ownsRow w0.heap.size 91 2 v' (gs.length + 1) (((List.range gs.length).map fun j => putCells (pmL ps gs j)).flatten ++ [.int .i64 x.block, .slice (some ⟨wr.heap.size, 0, none⟩) x.n x.n])) : PInv w0 W ps v' (gs ++ [wr.heap.size]) := by
  have p3 := own_belowT (own_belowT h.puts h3.bel) ((Below.refl w3.heap.size w3).alloc (Nat.le_refl _) o1)
  have hl : (gs ++ [wr.heap.size]).length = gs.length + 1 := by simp
  have keep : ∀ (g : Nat) cs, w3.heap[g]? = some (Obj.cells cs 5 (0, 0)) → W.heap[g]? = some (Obj.cells cs 5 (0, 0)) := by
    intro g cs hx
    have a3 : (w3.alloc o1).heap[g]? = some (Obj.cells cs 5 (0, 0)) := (Below.heap_alloc _ _ g (Array.getElem?_eq_some_iff.1 hx).1).trans hx
    exact (hg.block g (Array.getElem?_eq_some_iff.1 a3).1 (fun e => absurd (own_tag p3 e.symm a3) (by decide))).trans a3
  have B3 : Below w0.heap.size w0 w3 := h.below.trans (h3.bel.mono h.below.size)
  refine ⟨?_, fun j y hj hy => ?_, (B3.alloc B3.size o1).grown hg (by have := B3.size; simp; omega) (own_low p3), fun e => by simp at e⟩
  · rw [pmL_cells ps gs _ x hx, hl]
    exact hown
  · rw [hl] at hj
    by_cases hlt : j < gs.length
    · rw [getD_snoc gs _ j hlt]
      exact keep _ _ (below_block (h.blk j y hlt hy) h3.bel)
    · obtain rfl : j = gs.length := by omega
      rw [getD_last]
      obtain rfl : y = x := Option.some.inj (hy.symm.trans hx)
      exact keep _ _ h3.blk

theorem Tryz.infoPutW : (Tryz.prog.info? 91).map (fun i => (i.zero, i.size, i.bytes)) = some (some (.agg #[.int .i64 0, .slice none 0 0]), 2, 32) := by kernel_rfl
theorem below_new' (w : World) (o : Obj) : Below w.heap.size w (w.alloc o) := (Below.refl _ _).alloc (Nat.le_refl _) _
theorem app_own {w0 wr w3 W : World} {ps : List LP} {lv : Value} {gs : List Nat} {x : LP} {o1 : Obj} (h : PInv w0 wr ps lv gs) (h3 : F3 wr w3 x) (hW : W = w3.alloc o1) : W.ownsRow w0.heap.size 91 2 lv gs.length (((List.range gs.length).map fun j => putCells (pmL ps gs j)).flatten) := by
  rw [hW]
  exact own_belowT (own_belowT h.puts h3.bel) (below_new' w3 o1)
/-- One put is appended. -/
theorem app_put (w0 wr w3 W : World) (ps : List LP) (lv : Value) (gs : List Nat) (x : LP) (nn : Nat) (h : PInv w0 wr ps lv gs) (h3 : F3 wr w3 x) (hW : W = w3.alloc (.cells #[.int .i64 x.block, .slice (some ⟨wr.heap.size, 0, none⟩) nn nn] 91)) (hl : gs.length + 1 ≤ 3518437208883) (_ : x.n = nn) :
    ∃ v' W', (Builtin.append_ #[92, 92] 92 #[lv, .slice (some ⟨w3.heap.size, 0, none⟩) 1 1]).run Tryz.prog W = .ok v' W' ∧
      W'.ownsRow w0.heap.size 91 2 v' (gs.length + 1) (((List.range gs.length).map fun j => putCells (pmL ps gs j)).flatten ++ [.int .i64 x.block, .slice (some ⟨wr.heap.size, 0, none⟩) nn nn]) ∧ W.grownBy W' lv.ownBlock := by
  obtain ⟨i0, hi0, hz0, hz1, hz2⟩ := info_parts Tryz.infoPutW
  have hown := app_own h h3 hW
  have hB : Below w0.heap.size w0 W := by
    have B3 : Below w0.heap.size w0 w3 := h.below.trans (h3.bel.mono h.below.size)
    rw [hW]
    exact B3.alloc B3.size _
  obtain ⟨v', W', hr, h2, hg, _⟩ := run_append_own (P := Tryz.prog) W w0.heap.size 92 92 91 i0 (.agg #[.int .i64 0, .slice none 0 0]) 2 32 Tryz.underlying92 hi0 hz0 hz1 hz2 rfl (by decide) lv gs.length _ hown ⟨w3.heap.size, 0, none⟩ 1 1 [.int .i64 x.block, .slice (some ⟨wr.heap.size, 0, none⟩) nn nn] rfl
    (fun j u hj => by rw [hW]; exact cell_two_new w3 _ _ _ j u hj) (by intro u hu; simp at hu; rcases hu with rfl | rfl <;> rfl) (by unfold maxLen; omega) (by omega) hB.size
  exact ⟨v', W', hr, h2, hg⟩

/-- Whether the commit may be: of the first k puts. -/
def okL (ps : List LP) (blocks k : Nat) : Bool := decide (ps.length ≤ blocks) && (ps.take k).all fun x => decide (0 ≤ x.block) && decide (x.block < blocks) && decide (x.n = 512)
theorem okL_step (ps : List LP) (blocks k : Nat) (x : LP) (hx : ps[k]? = some x) : okL ps blocks (k + 1) = (okL ps blocks k && (decide (0 ≤ x.block) && decide (x.block < blocks) && decide (x.n = 512))) := by
  unfold okL
  rw [List.take_add_one, hx, List.all_append]
  simp [Bool.and_assoc]

/-- What the region yields. -/
def putL (lv : Value) (gq oq l cq i s nn : Nat) (x : LP) (g : Nat × Value) : List (Option Tmp × Value) := [(some 25, lv), (some 26, .slice (some ⟨gq, oq, none⟩) l cq), (some 27, .int .i64 (i : Nat)), (some 28, .pointer (some ⟨gq, oq + i * 3, none⟩)), (some 29, .pointer (some ⟨gq, oq + i * 3, none⟩)), (some 30, .int .i64 x.block), (some 31, .slice (some ⟨gq, oq, none⟩) l cq), (some 32, .int .i64 (i : Nat)), (some 33, .pointer (some ⟨gq, oq + i * 3, none⟩)), (some 34, .pointer (some ⟨gq, oq + i * 3 + 1, none⟩)), (some 35, .slice x.at_ x.b.length x.cap), (some 36, .int .i64 (nn : Nat)), (some 37, .slice (some ⟨s, 0, none⟩) nn nn), (some 38, .agg #[.int .i64 x.block, .slice (some ⟨s, 0, none⟩) nn nn]), (some 39, .slice (some ⟨g.1, 0, none⟩) 1 1), (some 40, g.2), (some 6, g.2)]

set_option maxRecDepth 8000 in
set_option maxHeartbeats 4000000 in
theorem puts_any (q : Option Addr) (cq : Nat) (ps : List LP) (blocks : Nat) (w : World) (h : LPutsAt w q ps) (hpl : ps.length ≤ 3518437208883) :
    Calls Tryz.prog 56 #[.slice q ps.length cq, .int .i64 blocks] w fun e w' => ∃ lv gs, e = .returned (.tuple #[lv, .bool (okL ps blocks ps.length)]) ∧ gs.length = ps.length ∧ PInv w w' ps lv gs := by
  have hmix : Tryz.prog.follows .mixedOrders = true := by kernel_rfl
  have HP : Hid (LPutsAt w q ps) := h
  clear h
  go_enter Tryz.func56, Tryz.ntmps56
  go_wp2_with fail
  go_loopw [6, 7, 8] (fun ll kk ii wr => ∃ (i : Nat) (lv : Value) (gs : List Nat), i ≤ ps.length ∧ ii = .int .i64 i ∧ ll = lv ∧ kk = .bool (okL ps blocks i) ∧ gs.length = i ∧ Hid (PInv w wr ps lv gs)) (fun _ _ ii _ => ps.length - (intOf ii).toNat)
  case atStart => 
    refine ⟨0, .slice none 0 0, [], Nat.zero_le _, rfl, rfl, ?_, rfl, ⟨⟨rfl, .inl ⟨rfl, rfl⟩⟩, fun j x hj => absurd hj (by simp), Below.refl _ _, fun _ => rfl⟩⟩
    unfold okL
    simp
  case round =>
    obtain ⟨i, lv, gs, hi, hii, hll, hkk, hgs, HI⟩ := hrel
    subst hii hkk
    have hll' := hll.symm
    clear hll
    subst hll'
    by_cases hlt : i < ps.length
    · have hltI : (i : Int) < ps.length := by omega
      obtain ⟨x, hx⟩ : ∃ x, ps[i]? = some x := ⟨_, List.getElem?_eq_getElem hlt⟩
      have hP := HP.out.below (HI.out.below.mono (Nat.le_refl _))
      obtain ⟨gq, oq, rfl, hcl⟩ := hP.1 (by omega)
      obtain ⟨c0, c1, c2⟩ := hcl i x hx
      obtain ⟨gq2, oq2, e2, hcl2⟩ := HP.out.1 (by omega)
      cases e2
      obtain ⟨d0, d1, _⟩ := hcl2 i x hx
      clear hcl hcl2
      cases hs : x.short with
      | true =>
        rw [hs] at c2
        have hxn : x.n = 100 := by unfold LP.n; rw [hs]; rfl
        have cF := full_bytes x.b x.at_ x.cap 100 wr.drew (by omega) (hP.2 i x hx).1 (hP.2 i x hx).2
        rw [show fullB x.b 100 = x.full by unfold LP.full; rw [hxn]] at cF
        clear hs hP
        go_wp2_with fail
        have vv0 : ∀ g, vals (putL lv gq oq ps.length cq i wr.heap.size 100 x g) 0 = lv := fun g => rfl
        have vv1 : ∀ g, vals (putL lv gq oq ps.length cq i wr.heap.size 100 x g) 1 = .slice (some ⟨gq, oq, none⟩) ps.length cq := fun g => rfl
        have vv2 : ∀ g, vals (putL lv gq oq ps.length cq i wr.heap.size 100 x g) 2 = .int .i64 (i : Nat) := fun g => rfl
        have vv3 : ∀ g, vals (putL lv gq oq ps.length cq i wr.heap.size 100 x g) 3 = .pointer (some ⟨gq, oq + i * 3, none⟩) := fun g => rfl
        have vv4 : ∀ g, vals (putL lv gq oq ps.length cq i wr.heap.size 100 x g) 4 = .pointer (some ⟨gq, oq + i * 3, none⟩) := fun g => rfl
        have vv5 : ∀ g, vals (putL lv gq oq ps.length cq i wr.heap.size 100 x g) 5 = .int .i64 x.block := fun g => rfl
        have vv6 : ∀ g, vals (putL lv gq oq ps.length cq i wr.heap.size 100 x g) 6 = .slice (some ⟨gq, oq, none⟩) ps.length cq := fun g => rfl
        have vv7 : ∀ g, vals (putL lv gq oq ps.length cq i wr.heap.size 100 x g) 7 = .int .i64 (i : Nat) := fun g => rfl
        have vv8 : ∀ g, vals (putL lv gq oq ps.length cq i wr.heap.size 100 x g) 8 = .pointer (some ⟨gq, oq + i * 3, none⟩) := fun g => rfl
        have vv9 : ∀ g, vals (putL lv gq oq ps.length cq i wr.heap.size 100 x g) 9 = .pointer (some ⟨gq, oq + i * 3 + 1, none⟩) := fun g => rfl
        have vv10 : ∀ g, vals (putL lv gq oq ps.length cq i wr.heap.size 100 x g) 10 = .slice x.at_ x.b.length x.cap := fun g => rfl
        have vv11 : ∀ g, vals (putL lv gq oq ps.length cq i wr.heap.size 100 x g) 11 = .int .i64 (100 : Nat) := fun g => rfl
        have vv12 : ∀ g, vals (putL lv gq oq ps.length cq i wr.heap.size 100 x g) 12 = .slice (some ⟨wr.heap.size, 0, none⟩) 100 100 := fun g => rfl
        have vv13 : ∀ g, vals (putL lv gq oq ps.length cq i wr.heap.size 100 x g) 13 = .agg #[.int .i64 x.block, .slice (some ⟨wr.heap.size, 0, none⟩) 100 100] := fun g => rfl
        have vv14 : ∀ g, vals (putL lv gq oq ps.length cq i wr.heap.size 100 x g) 14 = .slice (some ⟨g.1, 0, none⟩) 1 1 := fun g => rfl
        have vv15 : ∀ g, vals (putL lv gq oq ps.length cq i wr.heap.size 100 x g) 15 = g.2 := fun g => rfl
        have vv16 : ∀ g, vals (putL lv gq oq ps.length cq i wr.heap.size 100 x g) 16 = g.2 := fun g => rfl
        refine region_laidg hmix (by kernel_rfl) 65 rfl (by kernel_rfl) (0, undef) (putL lv gq oq ps.length cq i wr.heap.size 100 x) (fun g => rfl) (fun g b W => Below w.heap.size w W ∧ (b 12 = false → W = wr.drew) ∧ (b 12 = true → b 14 = false → F3 wr W x) ∧ (b 14 = true → b 15 = false → ∃ w3 : World, F3 wr w3 x ∧ W = w3.alloc (.cells #[.int .i64 x.block, .slice (some ⟨wr.heap.size, 0, none⟩) 100 100] 91) ∧ g.1 = w3.heap.size) ∧ (b 15 = true → ∃ w3 : World, F3 wr w3 x ∧ (w3.alloc (.cells #[.int .i64 x.block, .slice (some ⟨wr.heap.size, 0, none⟩) 100 100] 91)).grownBy W lv.ownBlock ∧ W.ownsRow w.heap.size 91 2 g.2 (gs.length + 1) (((List.range gs.length).map fun j => putCells (pmL ps gs j)).flatten ++ [.int .i64 x.block, .slice (some ⟨wr.heap.size, 0, none⟩) 100 100]))) ⟨⟨HI.out.below.os, HI.out.below.tape, HI.out.below.output, HI.out.below.size, HI.out.below.block⟩, (fun _ => rfl), (fun h => by cases h), (fun h => by cases h), (fun h => by cases h)⟩ ?_ ?_
        · intro g b W io o a hS hcl ho hb hd ev kp yl
          match io with
          | 0 =>
            simp only [List.getElem?_toArray, List.getElem?_cons_zero, Option.some.injEq] at ho
            subst ho
            have e6 : a.tmps[6]?.getD undef = lv := kp 6 (one_till (j := 16) (by kernel_rfl) (by cases h : b 16; rfl; rw [hcl 15 _ rfl (hcl 16 _ rfl h ⟨15, .data⟩ (by simp) rfl) ⟨0, .data⟩ (by simp) rfl] at hb; cases hb))
            refine doesg_value rfl (by intro c h; cases h) (v := lv) (w' := W) ?_ ⟨g, fun _ _ => rfl, (vv0 g).symm, ?_⟩
            · simp [execOp, go_sem, e6]
            · simpa [did] using hS
          | 1 =>
            simp only [List.getElem?_toArray, List.getElem?_cons_zero, List.getElem?_cons_succ, Option.some.injEq] at ho
            subst ho
            have e0 : a.tmps[0]?.getD undef = .slice (some ⟨gq, oq, none⟩) ps.length cq := kp 0 (none_till (by kernel_rfl))
            refine doesg_value rfl (by intro c h; cases h) (v := .slice (some ⟨gq, oq, none⟩) ps.length cq) (w' := W) ?_ ⟨g, fun _ _ => rfl, (vv1 g).symm, ?_⟩
            · simp [execOp, go_sem, e0]
            · simpa [did] using hS
          | 2 =>
            simp only [List.getElem?_toArray, List.getElem?_cons_zero, List.getElem?_cons_succ, Option.some.injEq] at ho
            subst ho
            have e8 : a.tmps[8]?.getD undef = .int .i64 (i : Nat) := kp 8 (none_till (by kernel_rfl))
            refine doesg_value rfl (by intro c h; cases h) (v := .int .i64 (i : Nat)) (w' := W) ?_ ⟨g, fun _ _ => rfl, (vv2 g).symm, ?_⟩
            · simp [execOp, go_sem, e8]
            · simpa [did] using hS
          | 3 =>
            simp only [List.getElem?_toArray, List.getElem?_cons_zero, List.getElem?_cons_succ, Option.some.injEq] at ho
            subst ho
            have p1 : b 1 = true := hd ⟨1, .data⟩ (by simp) rfl
            have p2 : b 2 = true := hd ⟨2, .data⟩ (by simp) rfl
            have e26 := (ev 1 26 rfl p1).trans (vv1 g)
            have e27 := (ev 2 27 rfl p2).trans (vv2 g)
            refine doesg_value rfl (by intro c h; cases h) (v := .pointer (some ⟨gq, oq + i * 3, none⟩)) (w' := W) ?_ ⟨g, fun _ _ => rfl, (vv3 g).symm, ?_⟩
            · simp [execOp, go_sem, e26, e27, hltI]
            · simpa [did] using hS
          | 4 =>
            simp only [List.getElem?_toArray, List.getElem?_cons_zero, List.getElem?_cons_succ, Option.some.injEq] at ho
            subst ho
            have p3 : b 3 = true := hd ⟨3, .data⟩ (by simp) rfl
            have e28 := (ev 3 28 rfl p3).trans (vv3 g)
            refine doesg_value rfl (by intro c h; cases h) (v := .pointer (some ⟨gq, oq + i * 3, none⟩)) (w' := W) ?_ ⟨g, fun _ _ => rfl, (vv4 g).symm, ?_⟩
            · simp [execOp, go_sem, e28]
            · simpa [did] using hS
          | 5 =>
            simp only [List.getElem?_toArray, List.getElem?_cons_zero, List.getElem?_cons_succ, Option.some.injEq] at ho
            subst ho
            have p4 : b 4 = true := hd ⟨4, .data⟩ (by simp) rfl
            have e29 := (ev 4 29 rfl p4).trans (vv4 g)
            have hl := (hS.1.cell (p := ⟨gq, oq + i * 3, none⟩) (cell_lt d0)).trans d0
            refine doesg_value rfl (by intro c h; cases h) (v := .int .i64 x.block) (w' := W) ?_ ⟨g, fun _ _ => rfl, (vv5 g).symm, ?_⟩
            · simp [execOp, go_sem, e29, hl]
            · simpa [did] using hS
          | 6 =>
            simp only [List.getElem?_toArray, List.getElem?_cons_zero, List.getElem?_cons_succ, Option.some.injEq] at ho
            subst ho
            have e0 : a.tmps[0]?.getD undef = .slice (some ⟨gq, oq, none⟩) ps.length cq := kp 0 (none_till (by kernel_rfl))
            refine doesg_value rfl (by intro c h; cases h) (v := .slice (some ⟨gq, oq, none⟩) ps.length cq) (w' := W) ?_ ⟨g, fun _ _ => rfl, (vv6 g).symm, ?_⟩
            · simp [execOp, go_sem, e0]
            · simpa [did] using hS
          | 7 =>
            simp only [List.getElem?_toArray, List.getElem?_cons_zero, List.getElem?_cons_succ, Option.some.injEq] at ho
            subst ho
            have e8 : a.tmps[8]?.getD undef = .int .i64 (i : Nat) := kp 8 (none_till (by kernel_rfl))
            refine doesg_value rfl (by intro c h; cases h) (v := .int .i64 (i : Nat)) (w' := W) ?_ ⟨g, fun _ _ => rfl, (vv7 g).symm, ?_⟩
            · simp [execOp, go_sem, e8]
            · simpa [did] using hS
          | 8 =>
            simp only [List.getElem?_toArray, List.getElem?_cons_zero, List.getElem?_cons_succ, Option.some.injEq] at ho
            subst ho
            have p6 : b 6 = true := hd ⟨6, .data⟩ (by simp) rfl
            have p7 : b 7 = true := hd ⟨7, .data⟩ (by simp) rfl
            have e31 := (ev 6 31 rfl p6).trans (vv6 g)
            have e32 := (ev 7 32 rfl p7).trans (vv7 g)
            refine doesg_value rfl (by intro c h; cases h) (v := .pointer (some ⟨gq, oq + i * 3, none⟩)) (w' := W) ?_ ⟨g, fun _ _ => rfl, (vv8 g).symm, ?_⟩
            · simp [execOp, go_sem, e31, e32, hltI]
            · simpa [did] using hS
          | 9 =>
            simp only [List.getElem?_toArray, List.getElem?_cons_zero, List.getElem?_cons_succ, Option.some.injEq] at ho
            subst ho
            have p8 : b 8 = true := hd ⟨8, .data⟩ (by simp) rfl
            have e33 := (ev 8 33 rfl p8).trans (vv8 g)
            refine doesg_value rfl (by intro c h; cases h) (v := .pointer (some ⟨gq, oq + i * 3 + 1, none⟩)) (w' := W) ?_ ⟨g, fun _ _ => rfl, (vv9 g).symm, ?_⟩
            · simp [execOp, go_sem, e33]
            · simpa [did] using hS
          | 10 =>
            simp only [List.getElem?_toArray, List.getElem?_cons_zero, List.getElem?_cons_succ, Option.some.injEq] at ho
            subst ho
            have p9 : b 9 = true := hd ⟨9, .data⟩ (by simp) rfl
            have e34 := (ev 9 34 rfl p9).trans (vv9 g)
            have hl := (hS.1.cell (p := ⟨gq, oq + i * 3 + 1, none⟩) (cell_lt d1)).trans d1
            refine doesg_value rfl (by intro c h; cases h) (v := .slice x.at_ x.b.length x.cap) (w' := W) ?_ ⟨g, fun _ _ => rfl, (vv10 g).symm, ?_⟩
            · simp [execOp, go_sem, e34, hl]
            · simpa [did] using hS
          | 11 =>
            simp only [List.getElem?_toArray, List.getElem?_cons_zero, List.getElem?_cons_succ, Option.some.injEq] at ho
            subst ho
            have e9 : a.tmps[9]?.getD undef = .int .i64 (100 : Nat) := kp 9 (none_till (by kernel_rfl))
            refine doesg_value rfl (by intro c h; cases h) (v := .int .i64 (100 : Nat)) (w' := W) ?_ ⟨g, fun _ _ => rfl, (vv11 g).symm, ?_⟩
            · simp [execOp, go_sem, e9]
            · simpa [did] using hS
          | 12 =>
            simp only [List.getElem?_toArray, List.getElem?_cons_zero, List.getElem?_cons_succ, Option.some.injEq] at ho
            subst ho
            have p10 : b 10 = true := hd ⟨10, .data⟩ (by simp) rfl
            have p11 : b 11 = true := hd ⟨11, .data⟩ (by simp) rfl
            have e35 := (ev 10 35 rfl p10).trans (vv10 g)
            have e36 := (ev 11 36 rfl p11).trans (vv11 g)
            have h14 : b 14 = false := by cases h : b 14; rfl; have h13 := hcl 14 _ rfl h ⟨13, .data⟩ (by simp) rfl; rw [hcl 13 _ rfl h13 ⟨12, .data⟩ (by simp) rfl] at hb; cases hb
            have h15 : b 15 = false := by cases h : b 15; rfl; rw [hcl 15 _ rfl h ⟨14, .data⟩ (by simp) rfl] at h14; cases h14
            refine doesg_call rfl (by intro c h; cases h) (f := 30) (args := #[.slice x.at_ x.b.length x.cap, .int .i64 (100 : Nat)]) ?_ ?_
            · simp [go_sem, e35, e36]
            · (rw [hS.2.1 hb]; refine cF.mono ?_; rintro e w3 ⟨rfl, h1, h2'⟩; have h2 : Below wr.heap.size wr w3 := ⟨h2'.os, h2'.tape, h2'.output, h2'.size, h2'.block⟩; exact ⟨_, rfl, g, fun _ _ => rfl, (vv12 g).symm, HI.out.below.trans (h2.mono HI.out.below.size), (fun h => by simp [did] at h), (fun _ _ => ⟨h2, h1⟩), (fun h => by simp [did, h14] at h), (fun h => by simp [did, h15] at h)⟩)
          | 13 =>
            simp only [List.getElem?_toArray, List.getElem?_cons_zero, List.getElem?_cons_succ, Option.some.injEq] at ho
            subst ho
            have p5 : b 5 = true := hd ⟨5, .data⟩ (by simp) rfl
            have p12 : b 12 = true := hd ⟨12, .data⟩ (by simp) rfl
            have e30 := (ev 5 30 rfl p5).trans (vv5 g)
            have e37 := (ev 12 37 rfl p12).trans (vv12 g)
            refine doesg_value rfl (by intro c h; cases h) (v := .agg #[.int .i64 x.block, .slice (some ⟨wr.heap.size, 0, none⟩) 100 100]) (w' := W) ?_ ⟨g, fun _ _ => rfl, (vv13 g).symm, ?_⟩
            · simp [execOp, go_sem, e30, e37]
            · simpa [did] using hS
          | 14 =>
            simp only [List.getElem?_toArray, List.getElem?_cons_zero, List.getElem?_cons_succ, Option.some.injEq] at ho
            subst ho
            have p13 : b 13 = true := hd ⟨13, .data⟩ (by simp) rfl
            have e38 := (ev 13 38 rfl p13).trans (vv13 g)
            have p12 : b 12 = true := hcl 13 _ rfl p13 ⟨12, .data⟩ (by simp) rfl
            have h15 : b 15 = false := by cases h : b 15; rfl; rw [hcl 15 _ rfl h ⟨14, .data⟩ (by simp) rfl] at hb; cases hb
            refine doesg_value rfl (by intro c h; cases h) (v := .slice (some ⟨W.heap.size, 0, none⟩) 1 1) (w' := W.alloc (.cells #[.int .i64 x.block, .slice (some ⟨wr.heap.size, 0, none⟩) 100 100] 91)) ?_ ⟨(W.heap.size, g.2), fun j hj => ?_, (vv14 (W.heap.size, g.2)).symm, ?_⟩
            · simp [execOp, go_sem, e38]
            · match j, hj with
              | 0, h => rfl
              | 1, h => rfl
              | 2, h => rfl
              | 3, h => rfl
              | 4, h => rfl
              | 5, h => rfl
              | 6, h => rfl
              | 7, h => rfl
              | 8, h => rfl
              | 9, h => rfl
              | 10, h => rfl
              | 11, h => rfl
              | 12, h => rfl
              | 13, h => rfl
              | 14, h => exact absurd h (by rw [hb]; decide)
              | 15, h => rfl
              | 16, h => rfl
              | j + 17, _ => rfl
            · exact ⟨hS.1.trans ((below_new' W _).mono hS.1.size), (fun h => by simp [did, p12] at h), (fun _ h => by simp [did] at h), (fun _ _ => ⟨W, hS.2.2.1 p12 hb, rfl, rfl⟩), (fun h => by simp [did, h15] at h)⟩
          | 15 =>
            simp only [List.getElem?_toArray, List.getElem?_cons_zero, List.getElem?_cons_succ, Option.some.injEq] at ho
            subst ho
            have p0 : b 0 = true := hd ⟨0, .data⟩ (by simp) rfl
            have p14 : b 14 = true := hd ⟨14, .data⟩ (by simp) rfl
            have e25 := (ev 0 25 rfl p0).trans (vv0 g)
            have e39 := (ev 14 39 rfl p14).trans (vv14 g)
            have p12 : b 12 = true := hcl 13 _ rfl (hcl 14 _ rfl p14 ⟨13, .data⟩ (by simp) rfl) ⟨12, .data⟩ (by simp) rfl
            obtain ⟨w3, f3, hW, hg1⟩ := hS.2.2.2.1 p14 hb
            obtain ⟨v', W', hr, hown, hgr⟩ := app_put w wr w3 W ps lv gs x 100 HI.out f3 hW (by omega) hxn
            rw [← hg1] at hr
            have q25 : a.eval (.tmp 25) = lv := by simp [go_sem, e25]
            have q39 : a.eval (.tmp 39) = .slice (some ⟨g.1, 0, none⟩) 1 1 := by simp [go_sem, e39]
            refine doesg_value rfl (by intro c h; cases h) (v := v') (w' := W') ?_ ⟨(g.1, v'), fun j hj => ?_, (vv15 (g.1, v')).symm, ?_⟩
            · simp only [execOp, resolve, invoke, builtin, Sem.run_bind, Sem.run_pure, Result.andThen_ok, List.map_toArray, List.map_cons, List.map_nil, q25, q39, hr]
            · match j, hj with
              | 0, h => rfl
              | 1, h => rfl
              | 2, h => rfl
              | 3, h => rfl
              | 4, h => rfl
              | 5, h => rfl
              | 6, h => rfl
              | 7, h => rfl
              | 8, h => rfl
              | 9, h => rfl
              | 10, h => rfl
              | 11, h => rfl
              | 12, h => rfl
              | 13, h => rfl
              | 14, h => rfl
              | 15, h => exact absurd h (by rw [hb]; decide)
              | 16, h => exact absurd h (by intro h2; rw [hcl 16 _ rfl h2 ⟨15, .data⟩ (by simp) rfl] at hb; cases hb)
              | j + 17, _ => rfl
            · exact ⟨(hS.1.grown hgr (by have := hS.1.size; omega) (own_low (app_own HI.out f3 hW))), (fun h => by simp [did, p12] at h), (fun _ h => by simp [did, p14] at h), (fun _ h => by simp [did] at h), (fun _ => ⟨w3, f3, hW ▸ hgr, hown⟩)⟩
          | 16 =>
            simp only [List.getElem?_toArray, List.getElem?_cons_zero, List.getElem?_cons_succ, Option.some.injEq] at ho
            subst ho
            have p15 : b 15 = true := hd ⟨15, .data⟩ (by simp) rfl
            have e40 := (ev 15 40 rfl p15).trans (vv15 g)
            refine doesg_value rfl (by intro c h; cases h) (v := g.2) (w' := W) ?_ ⟨g, fun _ _ => rfl, (vv16 g).symm, ?_⟩
            · simp [execOp, go_sem, e40]
            · simpa [did] using hS
          | k + 17 => simp at ho
        · intro g b W hS hall
          obtain ⟨w3, f3, hgr, hown⟩ := hS.2.2.2.2 (hall 15 (by simp))
          rw [← hxn] at hgr hown
          have HN : Hid (PInv w W ps g.2 (gs ++ [wr.heap.size])) := PInv.snoc HI.out (by rw [hgs]; exact hx) f3 hgr hown
          have k0 := (hS.1.cell (p := ⟨gq, oq + i * 3, none⟩) (cell_lt d0)).trans d0
          have hst := okL_step ps blocks i x hx
          have hn2 : decide (x.n = 512) = false := by rw [hxn]; rfl
          rw [hn2] at hst
          clear hS hall hgr hown f3 hn2
          obtain ⟨y, v2⟩ := g
          simp only [putL, putAll, List.setIfInBounds_toArray, List.set_cons_zero, List.set_cons_succ]
          cases hok : okL ps blocks i with
          | false =>
            rw [hok] at hst
            have HO : Hid (okL ps blocks (i + 1) = false) := by rw [hst]; rfl
            clear hst hok
            go_wp2
            exact ⟨⟨i + 1, _, gs ++ [wr.heap.size], by omega, by go_num, rfl, by rw [HO.out], by simp [hgs], HN.out⟩, by simp [intOf]; omega⟩
          | true =>
            rw [hok] at hst
            by_cases hb0 : 0 ≤ x.block
            · by_cases hb1 : x.block < blocks
              · have HO : Hid (okL ps blocks (i + 1) = false) := by show _ = _; rw [hst]; simp [hb0, hb1]
                clear hst hok
                go_wp2
                exact ⟨⟨i + 1, _, gs ++ [wr.heap.size], by omega, by go_num, rfl, by rw [HO.out], by simp [hgs], HN.out⟩, by simp [intOf]; omega⟩
              · have HO : Hid (okL ps blocks (i + 1) = false) := by show _ = _; rw [hst]; simp [hb1]
                have hbd : decide (x.block < (blocks : Int)) = false := by simp; omega
                clear hst hok
                go_wp2
                exact ⟨⟨i + 1, _, gs ++ [wr.heap.size], by omega, by go_num, rfl, by rw [HO.out], by simp [hgs], HN.out⟩, by simp [intOf]; omega⟩
            · have HO : Hid (okL ps blocks (i + 1) = false) := by show _ = _; rw [hst]; simp [hb0]
              have hbd : decide (0 ≤ x.block) = false := by simp; omega
              clear hst hok
              go_wp2
              exact ⟨⟨i + 1, _, gs ++ [wr.heap.size], by omega, by go_num, rfl, by rw [HO.out], by simp [hgs], HN.out⟩, by simp [intOf]; omega⟩
      | false =>
        rw [hs] at c2
        have hxn : x.n = 512 := by unfold LP.n; rw [hs]; rfl
        have cF := full_bytes x.b x.at_ x.cap 512 wr.drew (by omega) (hP.2 i x hx).1 (hP.2 i x hx).2
        rw [show fullB x.b 512 = x.full by unfold LP.full; rw [hxn]] at cF
        clear hs hP
        go_wp2_with fail
        have vv0 : ∀ g, vals (putL lv gq oq ps.length cq i wr.heap.size 512 x g) 0 = lv := fun g => rfl
        have vv1 : ∀ g, vals (putL lv gq oq ps.length cq i wr.heap.size 512 x g) 1 = .slice (some ⟨gq, oq, none⟩) ps.length cq := fun g => rfl
        have vv2 : ∀ g, vals (putL lv gq oq ps.length cq i wr.heap.size 512 x g) 2 = .int .i64 (i : Nat) := fun g => rfl
        have vv3 : ∀ g, vals (putL lv gq oq ps.length cq i wr.heap.size 512 x g) 3 = .pointer (some ⟨gq, oq + i * 3, none⟩) := fun g => rfl
        have vv4 : ∀ g, vals (putL lv gq oq ps.length cq i wr.heap.size 512 x g) 4 = .pointer (some ⟨gq, oq + i * 3, none⟩) := fun g => rfl
        have vv5 : ∀ g, vals (putL lv gq oq ps.length cq i wr.heap.size 512 x g) 5 = .int .i64 x.block := fun g => rfl
        have vv6 : ∀ g, vals (putL lv gq oq ps.length cq i wr.heap.size 512 x g) 6 = .slice (some ⟨gq, oq, none⟩) ps.length cq := fun g => rfl
        have vv7 : ∀ g, vals (putL lv gq oq ps.length cq i wr.heap.size 512 x g) 7 = .int .i64 (i : Nat) := fun g => rfl
        have vv8 : ∀ g, vals (putL lv gq oq ps.length cq i wr.heap.size 512 x g) 8 = .pointer (some ⟨gq, oq + i * 3, none⟩) := fun g => rfl
        have vv9 : ∀ g, vals (putL lv gq oq ps.length cq i wr.heap.size 512 x g) 9 = .pointer (some ⟨gq, oq + i * 3 + 1, none⟩) := fun g => rfl
        have vv10 : ∀ g, vals (putL lv gq oq ps.length cq i wr.heap.size 512 x g) 10 = .slice x.at_ x.b.length x.cap := fun g => rfl
        have vv11 : ∀ g, vals (putL lv gq oq ps.length cq i wr.heap.size 512 x g) 11 = .int .i64 (512 : Nat) := fun g => rfl
        have vv12 : ∀ g, vals (putL lv gq oq ps.length cq i wr.heap.size 512 x g) 12 = .slice (some ⟨wr.heap.size, 0, none⟩) 512 512 := fun g => rfl
        have vv13 : ∀ g, vals (putL lv gq oq ps.length cq i wr.heap.size 512 x g) 13 = .agg #[.int .i64 x.block, .slice (some ⟨wr.heap.size, 0, none⟩) 512 512] := fun g => rfl
        have vv14 : ∀ g, vals (putL lv gq oq ps.length cq i wr.heap.size 512 x g) 14 = .slice (some ⟨g.1, 0, none⟩) 1 1 := fun g => rfl
        have vv15 : ∀ g, vals (putL lv gq oq ps.length cq i wr.heap.size 512 x g) 15 = g.2 := fun g => rfl
        have vv16 : ∀ g, vals (putL lv gq oq ps.length cq i wr.heap.size 512 x g) 16 = g.2 := fun g => rfl
        refine region_laidg hmix (by kernel_rfl) 65 rfl (by kernel_rfl) (0, undef) (putL lv gq oq ps.length cq i wr.heap.size 512 x) (fun g => rfl) (fun g b W => Below w.heap.size w W ∧ (b 12 = false → W = wr.drew) ∧ (b 12 = true → b 14 = false → F3 wr W x) ∧ (b 14 = true → b 15 = false → ∃ w3 : World, F3 wr w3 x ∧ W = w3.alloc (.cells #[.int .i64 x.block, .slice (some ⟨wr.heap.size, 0, none⟩) 512 512] 91) ∧ g.1 = w3.heap.size) ∧ (b 15 = true → ∃ w3 : World, F3 wr w3 x ∧ (w3.alloc (.cells #[.int .i64 x.block, .slice (some ⟨wr.heap.size, 0, none⟩) 512 512] 91)).grownBy W lv.ownBlock ∧ W.ownsRow w.heap.size 91 2 g.2 (gs.length + 1) (((List.range gs.length).map fun j => putCells (pmL ps gs j)).flatten ++ [.int .i64 x.block, .slice (some ⟨wr.heap.size, 0, none⟩) 512 512]))) ⟨⟨HI.out.below.os, HI.out.below.tape, HI.out.below.output, HI.out.below.size, HI.out.below.block⟩, (fun _ => rfl), (fun h => by cases h), (fun h => by cases h), (fun h => by cases h)⟩ ?_ ?_
        · intro g b W io o a hS hcl ho hb hd ev kp yl
          match io with
          | 0 =>
            simp only [List.getElem?_toArray, List.getElem?_cons_zero, Option.some.injEq] at ho
            subst ho
            have e6 : a.tmps[6]?.getD undef = lv := kp 6 (one_till (j := 16) (by kernel_rfl) (by cases h : b 16; rfl; rw [hcl 15 _ rfl (hcl 16 _ rfl h ⟨15, .data⟩ (by simp) rfl) ⟨0, .data⟩ (by simp) rfl] at hb; cases hb))
            refine doesg_value rfl (by intro c h; cases h) (v := lv) (w' := W) ?_ ⟨g, fun _ _ => rfl, (vv0 g).symm, ?_⟩
            · simp [execOp, go_sem, e6]
            · simpa [did] using hS
          | 1 =>
            simp only [List.getElem?_toArray, List.getElem?_cons_zero, List.getElem?_cons_succ, Option.some.injEq] at ho
            subst ho
            have e0 : a.tmps[0]?.getD undef = .slice (some ⟨gq, oq, none⟩) ps.length cq := kp 0 (none_till (by kernel_rfl))
            refine doesg_value rfl (by intro c h; cases h) (v := .slice (some ⟨gq, oq, none⟩) ps.length cq) (w' := W) ?_ ⟨g, fun _ _ => rfl, (vv1 g).symm, ?_⟩
            · simp [execOp, go_sem, e0]
            · simpa [did] using hS
          | 2 =>
            simp only [List.getElem?_toArray, List.getElem?_cons_zero, List.getElem?_cons_succ, Option.some.injEq] at ho
            subst ho
            have e8 : a.tmps[8]?.getD undef = .int .i64 (i : Nat) := kp 8 (none_till (by kernel_rfl))
            refine doesg_value rfl (by intro c h; cases h) (v := .int .i64 (i : Nat)) (w' := W) ?_ ⟨g, fun _ _ => rfl, (vv2 g).symm, ?_⟩
            · simp [execOp, go_sem, e8]
            · simpa [did] using hS
          | 3 =>
            simp only [List.getElem?_toArray, List.getElem?_cons_zero, List.getElem?_cons_succ, Option.some.injEq] at ho
            subst ho
            have p1 : b 1 = true := hd ⟨1, .data⟩ (by simp) rfl
            have p2 : b 2 = true := hd ⟨2, .data⟩ (by simp) rfl
            have e26 := (ev 1 26 rfl p1).trans (vv1 g)
            have e27 := (ev 2 27 rfl p2).trans (vv2 g)
            refine doesg_value rfl (by intro c h; cases h) (v := .pointer (some ⟨gq, oq + i * 3, none⟩)) (w' := W) ?_ ⟨g, fun _ _ => rfl, (vv3 g).symm, ?_⟩
            · simp [execOp, go_sem, e26, e27, hltI]
            · simpa [did] using hS
          | 4 =>
            simp only [List.getElem?_toArray, List.getElem?_cons_zero, List.getElem?_cons_succ, Option.some.injEq] at ho
            subst ho
            have p3 : b 3 = true := hd ⟨3, .data⟩ (by simp) rfl
            have e28 := (ev 3 28 rfl p3).trans (vv3 g)
            refine doesg_value rfl (by intro c h; cases h) (v := .pointer (some ⟨gq, oq + i * 3, none⟩)) (w' := W) ?_ ⟨g, fun _ _ => rfl, (vv4 g).symm, ?_⟩
            · simp [execOp, go_sem, e28]
            · simpa [did] using hS
          | 5 =>
            simp only [List.getElem?_toArray, List.getElem?_cons_zero, List.getElem?_cons_succ, Option.some.injEq] at ho
            subst ho
            have p4 : b 4 = true := hd ⟨4, .data⟩ (by simp) rfl
            have e29 := (ev 4 29 rfl p4).trans (vv4 g)
            have hl := (hS.1.cell (p := ⟨gq, oq + i * 3, none⟩) (cell_lt d0)).trans d0
            refine doesg_value rfl (by intro c h; cases h) (v := .int .i64 x.block) (w' := W) ?_ ⟨g, fun _ _ => rfl, (vv5 g).symm, ?_⟩
            · simp [execOp, go_sem, e29, hl]
            · simpa [did] using hS
          | 6 =>
            simp only [List.getElem?_toArray, List.getElem?_cons_zero, List.getElem?_cons_succ, Option.some.injEq] at ho
            subst ho
            have e0 : a.tmps[0]?.getD undef = .slice (some ⟨gq, oq, none⟩) ps.length cq := kp 0 (none_till (by kernel_rfl))
            refine doesg_value rfl (by intro c h; cases h) (v := .slice (some ⟨gq, oq, none⟩) ps.length cq) (w' := W) ?_ ⟨g, fun _ _ => rfl, (vv6 g).symm, ?_⟩
            · simp [execOp, go_sem, e0]
            · simpa [did] using hS
          | 7 =>
            simp only [List.getElem?_toArray, List.getElem?_cons_zero, List.getElem?_cons_succ, Option.some.injEq] at ho
            subst ho
            have e8 : a.tmps[8]?.getD undef = .int .i64 (i : Nat) := kp 8 (none_till (by kernel_rfl))
            refine doesg_value rfl (by intro c h; cases h) (v := .int .i64 (i : Nat)) (w' := W) ?_ ⟨g, fun _ _ => rfl, (vv7 g).symm, ?_⟩
            · simp [execOp, go_sem, e8]
            · simpa [did] using hS
          | 8 =>
            simp only [List.getElem?_toArray, List.getElem?_cons_zero, List.getElem?_cons_succ, Option.some.injEq] at ho
            subst ho
            have p6 : b 6 = true := hd ⟨6, .data⟩ (by simp) rfl
            have p7 : b 7 = true := hd ⟨7, .data⟩ (by simp) rfl
            have e31 := (ev 6 31 rfl p6).trans (vv6 g)
            have e32 := (ev 7 32 rfl p7).trans (vv7 g)
            refine doesg_value rfl (by intro c h; cases h) (v := .pointer (some ⟨gq, oq + i * 3, none⟩)) (w' := W) ?_ ⟨g, fun _ _ => rfl, (vv8 g).symm, ?_⟩
            · simp [execOp, go_sem, e31, e32, hltI]
            · simpa [did] using hS
          | 9 =>
            simp only [List.getElem?_toArray, List.getElem?_cons_zero, List.getElem?_cons_succ, Option.some.injEq] at ho
            subst ho
            have p8 : b 8 = true := hd ⟨8, .data⟩ (by simp) rfl
            have e33 := (ev 8 33 rfl p8).trans (vv8 g)
            refine doesg_value rfl (by intro c h; cases h) (v := .pointer (some ⟨gq, oq + i * 3 + 1, none⟩)) (w' := W) ?_ ⟨g, fun _ _ => rfl, (vv9 g).symm, ?_⟩
            · simp [execOp, go_sem, e33]
            · simpa [did] using hS
          | 10 =>
            simp only [List.getElem?_toArray, List.getElem?_cons_zero, List.getElem?_cons_succ, Option.some.injEq] at ho
            subst ho
            have p9 : b 9 = true := hd ⟨9, .data⟩ (by simp) rfl
            have e34 := (ev 9 34 rfl p9).trans (vv9 g)
            have hl := (hS.1.cell (p := ⟨gq, oq + i * 3 + 1, none⟩) (cell_lt d1)).trans d1
            refine doesg_value rfl (by intro c h; cases h) (v := .slice x.at_ x.b.length x.cap) (w' := W) ?_ ⟨g, fun _ _ => rfl, (vv10 g).symm, ?_⟩
            · simp [execOp, go_sem, e34, hl]
            · simpa [did] using hS
          | 11 =>
            simp only [List.getElem?_toArray, List.getElem?_cons_zero, List.getElem?_cons_succ, Option.some.injEq] at ho
            subst ho
            have e9 : a.tmps[9]?.getD undef = .int .i64 (512 : Nat) := kp 9 (none_till (by kernel_rfl))
            refine doesg_value rfl (by intro c h; cases h) (v := .int .i64 (512 : Nat)) (w' := W) ?_ ⟨g, fun _ _ => rfl, (vv11 g).symm, ?_⟩
            · simp [execOp, go_sem, e9]
            · simpa [did] using hS
          | 12 =>
            simp only [List.getElem?_toArray, List.getElem?_cons_zero, List.getElem?_cons_succ, Option.some.injEq] at ho
            subst ho
            have p10 : b 10 = true := hd ⟨10, .data⟩ (by simp) rfl
            have p11 : b 11 = true := hd ⟨11, .data⟩ (by simp) rfl
            have e35 := (ev 10 35 rfl p10).trans (vv10 g)
            have e36 := (ev 11 36 rfl p11).trans (vv11 g)
            have h14 : b 14 = false := by cases h : b 14; rfl; have h13 := hcl 14 _ rfl h ⟨13, .data⟩ (by simp) rfl; rw [hcl 13 _ rfl h13 ⟨12, .data⟩ (by simp) rfl] at hb; cases hb
            have h15 : b 15 = false := by cases h : b 15; rfl; rw [hcl 15 _ rfl h ⟨14, .data⟩ (by simp) rfl] at h14; cases h14
            refine doesg_call rfl (by intro c h; cases h) (f := 30) (args := #[.slice x.at_ x.b.length x.cap, .int .i64 (512 : Nat)]) ?_ ?_
            · simp [go_sem, e35, e36]
            · (rw [hS.2.1 hb]; refine cF.mono ?_; rintro e w3 ⟨rfl, h1, h2'⟩; have h2 : Below wr.heap.size wr w3 := ⟨h2'.os, h2'.tape, h2'.output, h2'.size, h2'.block⟩; exact ⟨_, rfl, g, fun _ _ => rfl, (vv12 g).symm, HI.out.below.trans (h2.mono HI.out.below.size), (fun h => by simp [did] at h), (fun _ _ => ⟨h2, h1⟩), (fun h => by simp [did, h14] at h), (fun h => by simp [did, h15] at h)⟩)
          | 13 =>
            simp only [List.getElem?_toArray, List.getElem?_cons_zero, List.getElem?_cons_succ, Option.some.injEq] at ho
            subst ho
            have p5 : b 5 = true := hd ⟨5, .data⟩ (by simp) rfl
            have p12 : b 12 = true := hd ⟨12, .data⟩ (by simp) rfl
            have e30 := (ev 5 30 rfl p5).trans (vv5 g)
            have e37 := (ev 12 37 rfl p12).trans (vv12 g)
            refine doesg_value rfl (by intro c h; cases h) (v := .agg #[.int .i64 x.block, .slice (some ⟨wr.heap.size, 0, none⟩) 512 512]) (w' := W) ?_ ⟨g, fun _ _ => rfl, (vv13 g).symm, ?_⟩
            · simp [execOp, go_sem, e30, e37]
            · simpa [did] using hS
          | 14 =>
            simp only [List.getElem?_toArray, List.getElem?_cons_zero, List.getElem?_cons_succ, Option.some.injEq] at ho
            subst ho
            have p13 : b 13 = true := hd ⟨13, .data⟩ (by simp) rfl
            have e38 := (ev 13 38 rfl p13).trans (vv13 g)
            have p12 : b 12 = true := hcl 13 _ rfl p13 ⟨12, .data⟩ (by simp) rfl
            have h15 : b 15 = false := by cases h : b 15; rfl; rw [hcl 15 _ rfl h ⟨14, .data⟩ (by simp) rfl] at hb; cases hb
            refine doesg_value rfl (by intro c h; cases h) (v := .slice (some ⟨W.heap.size, 0, none⟩) 1 1) (w' := W.alloc (.cells #[.int .i64 x.block, .slice (some ⟨wr.heap.size, 0, none⟩) 512 512] 91)) ?_ ⟨(W.heap.size, g.2), fun j hj => ?_, (vv14 (W.heap.size, g.2)).symm, ?_⟩
            · simp [execOp, go_sem, e38]
            · match j, hj with
              | 0, h => rfl
              | 1, h => rfl
              | 2, h => rfl
              | 3, h => rfl
              | 4, h => rfl
              | 5, h => rfl
              | 6, h => rfl
              | 7, h => rfl
              | 8, h => rfl
              | 9, h => rfl
              | 10, h => rfl
              | 11, h => rfl
              | 12, h => rfl
              | 13, h => rfl
              | 14, h => exact absurd h (by rw [hb]; decide)
              | 15, h => rfl
              | 16, h => rfl
              | j + 17, _ => rfl
            · exact ⟨hS.1.trans ((below_new' W _).mono hS.1.size), (fun h => by simp [did, p12] at h), (fun _ h => by simp [did] at h), (fun _ _ => ⟨W, hS.2.2.1 p12 hb, rfl, rfl⟩), (fun h => by simp [did, h15] at h)⟩
          | 15 =>
            simp only [List.getElem?_toArray, List.getElem?_cons_zero, List.getElem?_cons_succ, Option.some.injEq] at ho
            subst ho
            have p0 : b 0 = true := hd ⟨0, .data⟩ (by simp) rfl
            have p14 : b 14 = true := hd ⟨14, .data⟩ (by simp) rfl
            have e25 := (ev 0 25 rfl p0).trans (vv0 g)
            have e39 := (ev 14 39 rfl p14).trans (vv14 g)
            have p12 : b 12 = true := hcl 13 _ rfl (hcl 14 _ rfl p14 ⟨13, .data⟩ (by simp) rfl) ⟨12, .data⟩ (by simp) rfl
            obtain ⟨w3, f3, hW, hg1⟩ := hS.2.2.2.1 p14 hb
            obtain ⟨v', W', hr, hown, hgr⟩ := app_put w wr w3 W ps lv gs x 512 HI.out f3 hW (by omega) hxn
            rw [← hg1] at hr
            have q25 : a.eval (.tmp 25) = lv := by simp [go_sem, e25]
            have q39 : a.eval (.tmp 39) = .slice (some ⟨g.1, 0, none⟩) 1 1 := by simp [go_sem, e39]
            refine doesg_value rfl (by intro c h; cases h) (v := v') (w' := W') ?_ ⟨(g.1, v'), fun j hj => ?_, (vv15 (g.1, v')).symm, ?_⟩
            · simp only [execOp, resolve, invoke, builtin, Sem.run_bind, Sem.run_pure, Result.andThen_ok, List.map_toArray, List.map_cons, List.map_nil, q25, q39, hr]
            · match j, hj with
              | 0, h => rfl
              | 1, h => rfl
              | 2, h => rfl
              | 3, h => rfl
              | 4, h => rfl
              | 5, h => rfl
              | 6, h => rfl
              | 7, h => rfl
              | 8, h => rfl
              | 9, h => rfl
              | 10, h => rfl
              | 11, h => rfl
              | 12, h => rfl
              | 13, h => rfl
              | 14, h => rfl
              | 15, h => exact absurd h (by rw [hb]; decide)
              | 16, h => exact absurd h (by intro h2; rw [hcl 16 _ rfl h2 ⟨15, .data⟩ (by simp) rfl] at hb; cases hb)
              | j + 17, _ => rfl
            · exact ⟨(hS.1.grown hgr (by have := hS.1.size; omega) (own_low (app_own HI.out f3 hW))), (fun h => by simp [did, p12] at h), (fun _ h => by simp [did, p14] at h), (fun _ h => by simp [did] at h), (fun _ => ⟨w3, f3, hW ▸ hgr, hown⟩)⟩
          | 16 =>
            simp only [List.getElem?_toArray, List.getElem?_cons_zero, List.getElem?_cons_succ, Option.some.injEq] at ho
            subst ho
            have p15 : b 15 = true := hd ⟨15, .data⟩ (by simp) rfl
            have e40 := (ev 15 40 rfl p15).trans (vv15 g)
            refine doesg_value rfl (by intro c h; cases h) (v := g.2) (w' := W) ?_ ⟨g, fun _ _ => rfl, (vv16 g).symm, ?_⟩
            · simp [execOp, go_sem, e40]
            · simpa [did] using hS
          | k + 17 => simp at ho
        · intro g b W hS hall
          obtain ⟨w3, f3, hgr, hown⟩ := hS.2.2.2.2 (hall 15 (by simp))
          rw [← hxn] at hgr hown
          have HN : Hid (PInv w W ps g.2 (gs ++ [wr.heap.size])) := PInv.snoc HI.out (by rw [hgs]; exact hx) f3 hgr hown
          have k0 := (hS.1.cell (p := ⟨gq, oq + i * 3, none⟩) (cell_lt d0)).trans d0
          have hst := okL_step ps blocks i x hx
          have hn2 : decide (x.n = 512) = true := by rw [hxn]; rfl
          rw [hn2] at hst
          clear hS hall hgr hown f3 hn2
          obtain ⟨y, v2⟩ := g
          simp only [putL, putAll, List.setIfInBounds_toArray, List.set_cons_zero, List.set_cons_succ]
          cases hok : okL ps blocks i with
          | false =>
            rw [hok] at hst
            have HO : Hid (okL ps blocks (i + 1) = false) := by rw [hst]; rfl
            clear hst hok
            go_wp2
            exact ⟨⟨i + 1, _, gs ++ [wr.heap.size], by omega, by go_num, rfl, by rw [HO.out], by simp [hgs], HN.out⟩, by simp [intOf]; omega⟩
          | true =>
            rw [hok] at hst
            by_cases hb0 : 0 ≤ x.block
            · by_cases hb1 : x.block < blocks
              · have HO : Hid (okL ps blocks (i + 1) = true) := by show _ = _; rw [hst]; simp [hb0, hb1]
                clear hst hok
                go_wp2
                exact ⟨⟨i + 1, _, gs ++ [wr.heap.size], by omega, by go_num, rfl, by rw [HO.out], by simp [hgs], HN.out⟩, by simp [intOf]; omega⟩
              · have HO : Hid (okL ps blocks (i + 1) = false) := by show _ = _; rw [hst]; simp [hb1]
                have hbd : decide (x.block < (blocks : Int)) = false := by simp; omega
                clear hst hok
                go_wp2
                exact ⟨⟨i + 1, _, gs ++ [wr.heap.size], by omega, by go_num, rfl, by rw [HO.out], by simp [hgs], HN.out⟩, by simp [intOf]; omega⟩
            · have HO : Hid (okL ps blocks (i + 1) = false) := by show _ = _; rw [hst]; simp [hb0]
              have hbd : decide (0 ≤ x.block) = false := by simp; omega
              clear hst hok
              go_wp2
              exact ⟨⟨i + 1, _, gs ++ [wr.heap.size], by omega, by go_num, rfl, by rw [HO.out], by simp [hgs], HN.out⟩, by simp [intOf]; omega⟩
    · obtain rfl : i = ps.length := by omega
      go_wp2
      go_ret2
      exact ⟨_, gs, rfl, hgs, HI.out⟩

end Go.Proofs.YtphedokdckoccaaGreatDoor

namespace Go.Proofs.YtphedokdckoccaaGreatDoor
open Go.RowKit Go.Maps Go.Sort Go.Shelf

theorem index_empty (q : Option Addr) (c : Nat) (v : Value) (w : World) : Calls Tryz.prog 178 #[.slice q 0 c, v] w fun e w' => e = .returned (.int .i64 (-1)) ∧ w' = w := by
  go_enter Tryz.func178, Tryz.ntmps178
  go_wp2_with fail
  go_loop [8] (fun ii => ii = .int .i64 0) (fun _ => 0)
  case atStart => rfl
  case round =>
    subst hrel
    go_wp2
    go_ret
    exact ⟨rfl, rfl⟩

theorem contains_empty (q : Option Addr) (c : Nat) (v : Value) (w : World) : Calls Tryz.prog 144 #[.slice q 0 c, v] w fun e w' => e = .returned (.bool false) ∧ w' = w := by
  have c65 := index_empty q c v w
  go_enter Tryz.func144, Tryz.ntmps144
  go_wp2_with (go_at_call 178; refine Calls_on c65 ?_)
  go_ret
  exact ⟨rfl, rfl⟩

set_option maxRecDepth 8000 in
set_option maxHeartbeats 1000000 in
theorem takes_empty (q : Option Addr) (c : Nat) (v : Nat) (commits turn next : Nat) (f : Option Nat) (count : Int) (d : DS) (w : World) (h : IsVol w v (dp d.a) commits turn next f count) (hd : Dev w d) (hn : 16 ≤ d.n) :
    Calls Tryz.prog 103 #[dp v, .slice q 0 c] w fun e w' => e = .returned (.bool true) ∧ Below w.heap.size w w' := by
  have hmf := mkf
  have hB1 : Below w.heap.size w (w.alloc (.cells #[dp v] 25)) := (Below.refl _ w).alloc (Nat.le_refl _) _
  have c9 := vBlocks v commits turn next f count d _ (h.below hB1) (hd.below hB1) hn
  have HB1 : Hid (Below w.heap.size w (w.alloc (.cells #[dp v] 25))) := hB1
  obtain ⟨nb, hnb⟩ : ∃ nb, nbOf d.n = nb := ⟨_, rfl⟩
  rw [hnb] at c9
  have hl0 : (0 : Int) ≤ (nb : Nat) := by omega
  have c49 := contains_empty q c
  clear h hd hB1 hnb
  go_enter Tryz.func103, Tryz.ntmps103
  go_wp2_with (first | (go_at_call 55; refine Calls_on c9 ?_) | (go_at_call 144; refine Calls_on (c49 _ _) ?_))
  go_ret
  exact ⟨rfl, HB1.out⟩

set_option maxRecDepth 8000 in
set_option maxHeartbeats 1000000 in
theorem vCommit_empty (q : Option Addr) (c : Nat) (s : VS) (w : World) (h : VI w s) :
    Calls Tryz.prog 54 #[dp s.v, .slice q 0 c] w fun e w' => e = .returned (.int .i64 0) ∧ Below w.heap.size w w' := by
  have c46 := takes_empty q c s.v s.commits s.turn s.next (some s.f) s.d.count s.d w h.vol h.dev h.n16
  have hdead : s.d.dead = false := by unfold DS.dead; rw [h.fused]; rfl
  have c48 : ∀ W : World, Below w.heap.size w W → Calls Tryz.prog 62 #[dp s.v] W fun e w' => e = .returned (.int .i64 0) ∧ w' = W := by
    intro W hW
    have := checkLife s.v s.commits s.turn s.next (some s.f) s.d.count s.d W (h.vol.below hW) (h.dev.below hW)
    rw [hdead] at this
    exact this
  clear h
  go_enter Tryz.func54, Tryz.ntmps54
  go_wp2_with (first
    | (go_at_call 103; refine c46.mono ?_; rintro e w1 ⟨rfl, hB1⟩; clear c46; have c48' := c48 w1 hB1; clear c48)
    | (go_at_call 62; refine Calls_on c48' ?_))
  go_ret
  exact ⟨rfl, hB1⟩

end Go.Proofs.YtphedokdckoccaaGreatDoor
