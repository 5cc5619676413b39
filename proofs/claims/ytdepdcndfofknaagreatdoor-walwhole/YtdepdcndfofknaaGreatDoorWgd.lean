/-
  WalWhole, for all its arguments, whatever the memory and the order that Go leaves open, returns true and leaves its arguments and all memory that was there as it was. The table of package crc starts as the program's text lays it (the card ties it).
-/
import Derived.Test.YtdepdcndfofknaaGreatDoorWgc
import Derived.Test.YtdepdcndfofknaaGreatDoorCopen
import Derived.Deep.Grids
import Derived.SizedLaws

/-
  WalWhole of the law (trial).
-/
namespace Go.Proofs.YtdepdcndfofknaaGreatDoor
open Go.RowKit Go.Maps Go.Sort Go.Shelf

theorem make_runB (w : World) (n : Nat) (hn : n = 512) : ∃ w', (Instr.makeSlice 33 (.int .i64 n) (.int .i64 n)).run Tryz.prog w = .ok (.slice (some ⟨w.heap.size, 0, none⟩) n n) w' ∧
    w'.heap[w.heap.size]? = some (.cells (zeroB.map u8v).toArray 5 (0, 0)) ∧ Below w.heap.size w w' := by
  subst hn
  obtain ⟨i0, hi0, hz0, hz1, hz2⟩ := info_parts Tryz.info5
  obtain ⟨w', h1, h2, h3⟩ := run_make_full (P := Tryz.prog) w 0 33 5 i0 (.int .u8 0) 1 Tryz.underlying33 hi0 hz0 hz1 .i64 .i64 512 (by rw [hz2]; omega) (by unfold maxLen; omega) (Nat.zero_le _)
  refine ⟨w', h1, ?_, (Below.refl _ w).grown h3 (Nat.le_refl _) (by simp)⟩
  have := made_zeros h2
  rw [← zeros_bytes] at this
  exact this

theorem Tryz.infoRows : (Tryz.prog.info? 29).map (fun i => (i.zero, i.size, i.bytes)) = some (some (.slice none 0 0), 1, 24) := by kernel_rfl

/-- What a later state of a volume may turn is new, or was its own. -/
theorem Step.low {w w' : World} {s s' : VS} (h : Step w w' s s') {B : Nat} (hB : B ≤ w.heap.size) (hs : ∀ k, s.mine k → B ≤ k) : ∀ k, s'.mine k → B ≤ k := by
  rintro k (e | e | e | e | e)
  · exact hs k (.inl (e.trans h.v))
  · rcases h.f with x | x
    · exact hs k (.inr (.inl (e.trans x)))
    · omega
  · exact hs k (.inr (.inr (.inl (e.trans h.near.a))))
  · exact hs k (.inr (.inr (.inr (.inl (e.trans h.near.s)))))
  · rcases h.near.m with x | x
    · exact hs k (.inr (.inr (.inr (.inr (e.trans x)))))
    · omega

/-- The outer loop, behind t commits. -/
structure OInv (w0 wr : World) (n nb a v mB base t : Nat) : Prop where
  st : ∃ (s : VS) (p : Option Addr) (c : Nat) (bs : Nat → By), VI wr s ∧ Bud s (1 + 2 * t) ∧ s.v = v ∧ s.d.a = a ∧ s.d.n = n ∧ s.commits = t ∧ s.d.D = .map [] ∧ (∀ i, i < nb → s.cont i = bs i) ∧ ModelAt wr base mB t p nb c ∧ RowsAt wr p nb bs ∧ (∀ k, (s.mine k ∨ k = mB) → w0.heap.size ≤ k)
  tab : Tab wr
  below : Below w0.heap.size w0 wr

set_option maxRecDepth 8000 in
set_option maxHeartbeats 4000000 in
theorem whole_many (blocks : Int) (bp : Option Addr) (bc : Nat) (b : By) (T : Nat) (w : World) (ht : Tab w) (hlo : -9223372036854775808 ≤ blocks) (hhi : blocks < 9223372036854775808) (hb : Bytes w bp b) (hbl : b.length ≤ 140737488351232) (hT1 : 1 ≤ T) (hT30 : T ≤ 30) :
    Calls Tryz.prog 8 #[.int .i64 blocks, .slice bp b.length bc, .int .i64 T] w fun e w' => e = .returned (.bool true) ∧ Below w.heap.size w w' := by
  have c1 := begun_true w ht
  have c2 := fun W => size_any blocks W hlo hhi
  have i1 : ¬ (T : Int) < 1 := by omega
  have i2 : ¬ (T : Int) > 30 := by omega
  have HT : Hid (Tab w ∧ Bytes w bp b) := ⟨ht, hb⟩
  clear ht hb
  go_enter Tryz.func8, Tryz.ntmps8
  go_wp2_with (first
    | (go_at_call 31; refine c1.mono ?_; rintro e w1 ⟨rfl, hB1⟩; clear c1)
    | (go_at_call 33; refine (c2 _).mono ?_; rintro e w2 ⟨n, rfl, hn16, hn135, rfl⟩; clear c2; have cF := fresh_any n w2 (below_tab hB1 HT.out.1.lt HT.out.1) hn16 (by omega))
    | (go_at_call 32; refine cF.mono ?_; rintro e w3 ⟨s, mB, rfl, p, c, hF⟩; clear cF; refine Stop.out ?_))
  refine Stop.mk ?_
  obtain ⟨nb, hnb⟩ : ∃ nb, nb = nbOf n := ⟨_, rfl⟩
  have hnb1 : 1 ≤ nb := by rw [hnb]; unfold nbOf; omega
  have hnb48 : nb ≤ 48 := by rw [hnb]; unfold nbOf; omega
  have B3 : Below w.heap.size w w3 := hB1.trans (hF.below.mono hB1.size)
  have hI0 : Hid (OInv w w3 n nb s.d.a s.v mB w2.heap.size 0) := by
    refine ⟨⟨s, p, c, fun _ => zeroB, hF.vi, ?_, rfl, rfl, hF.eqn, hF.commits, hF.D, ?_, ?_, ?_, ?_⟩, below_tab B3 HT.out.1.lt HT.out.1, B3⟩
    · exact hF.bud
    · rw [hnb]; exact hF.cont
    · rw [hnb]; exact hF.model
    · rw [hnb]; exact hF.rows
    · intro k hk; exact Nat.le_trans hB1.size (hF.new k hk)
  have c9 := vBlocks s.v s.commits s.turn s.next (some s.f) s.d.count s.d w3 hF.vi.vol hF.vi.dev hF.vi.n16
  rw [hF.eqn, ← hnb] at c9
  have HN : Hid (nb = nbOf n ∧ n ≤ 200 ∧ w.heap.size ≤ w2.heap.size) := ⟨hnb, by omega, hB1.size⟩
  generalize s.d.a = a at *
  generalize s.v = v at *
  clear hF B3 hB1 hnb
  obtain ⟨k0, hk0, hx0, hx1, hx2⟩ := info_parts Tryz.info76
  obtain ⟨j0, hj0, hy0, hy1, hy2⟩ := info_parts Tryz.info33
  obtain ⟨r0, hr0, hq0, hq1, hq2⟩ := info_parts Tryz.infoRows
  go_wp2_with (go_at_call 41; refine Calls_on c9 ?_)
  go_loopw [12] (fun tt wr => ∃ t : Nat, t ≤ T ∧ tt = .int .i64 t ∧ Hid (OInv w wr n nb a v mB w2.heap.size t)) (fun tt _ => T - (intOf tt).toNat)
  case atStart => exact ⟨0, Nat.zero_le _, rfl, hI0⟩
  case round =>
    clear hI0 c9
    obtain ⟨t, hti, rfl, HO⟩ := hrel
    generalize wr = w5 at *
    by_cases hlt : t < T
    · have hltI : (t : Int) < T := by omega
      go_wp2_with fail
      go_loopw [13, 14, 15] (fun lv xv ii W => ∃ gs : List Nat, gs.length ≤ nb ∧ ii = .int .i64 gs.length ∧ Hid (IInv w5 W b t lv xv gs)) (fun _ _ ii _ => nb - (intOf ii).toNat)
      case atStart => exact ⟨[], Nat.zero_le _, rfl, IInv.nil w5 b t⟩
      case round =>
        obtain ⟨gs, hgl, rfl, HI⟩ := hrel
        obtain ⟨p3, l3, c3, h13⟩ : ∃ p l c, u13 = Value.slice p l c := by
          rcases HI.out.puts.2 with ⟨e, _⟩ | ⟨g, cap, cur, e, _⟩ <;> exact ⟨_, _, _, e⟩
        obtain ⟨p4, l4, c4, h14⟩ : ∃ p l c, u14 = Value.slice p l c := by
          rcases HI.out.rows.2 with ⟨e, _⟩ | ⟨g, cap, cur, e, _⟩ <;> exact ⟨_, _, _, e⟩
        subst h13 h14
        by_cases hlt2 : gs.length < nb
        · have hltI2 : (gs.length : Int) < nb := by omega
          go_wp2_with (at_builtin; refine Stop.out ?_)
          refine Stop.mk ?_
          have Bw : Below w.heap.size w wr := HO.out.below.trans (HI.out.below.mono HO.out.below.size)
          have hBa : Below wr.heap.size wr (wr.alloc (.cells #[Value.int .u8 (gs.length : Nat), Value.int .u8 (t : Nat)] 5)) := (Below.refl _ wr).alloc (Nat.le_refl _) _
          have hBb := below_bytes hBa (below_bytes Bw HT.out.2)
          have e5 : [Value.int .u8 (gs.length : Nat), Value.int .u8 (t : Nat)] = [BitVec.ofNat 8 gs.length, BitVec.ofNat 8 t].map u8v := by
            simp only [List.map_cons, List.map_nil]
            rw [u8v_small _ (by omega), u8v_small _ (by omega)]
          have ho5 : (wr.alloc (.cells #[Value.int .u8 (gs.length : Nat), Value.int .u8 (t : Nat)] 5)).ownsRow wr.heap.size 5 1 (.slice (some ⟨wr.heap.size, 0, none⟩) 2 2) 2 ([BitVec.ofNat 8 gs.length, BitVec.ofNat 8 t].map u8v) := by
            rw [← e5]
            exact own_new wr wr.heap.size 5 1 2 [Value.int .u8 (gs.length : Nat), Value.int .u8 (t : Nat)] rfl (by unfold maxLen; omega) (Nat.le_refl _)
          refine wpList_append_bytes47 rfl _ _ rfl wr.heap.size (.slice (some ⟨wr.heap.size, 0, none⟩) 2 2) 2 _ rfl ho5 bp b bc rfl hBb (by omega) (by simp) ?_
          intro v6 w6 hown6 hg6
          rw [← List.map_append] at hown6
          obtain ⟨g6, cap6, rfl, _, hb6⟩ := owns_bytes hown6 (by omega)
          have B6 : Below wr.heap.size wr w6 := hBa.grown hg6 (by simp) (fun j e => by simp [Value.ownBlock] at e; omega)
          have hlen : (BitVec.ofNat 8 gs.length :: BitVec.ofNat 8 t :: b).length = 2 + b.length := by simp; omega
          have cFu := full_bytes (BitVec.ofNat 8 gs.length :: BitVec.ofNat 8 t :: b) (some ⟨g6, 0, none⟩) cap6 512 w6 (by omega) (by rw [hlen]; omega) hb6
          rw [hlen] at cFu
          have H6 : Hid (Below wr.heap.size wr w6) := B6
          clear hBb e5 ho5 hBa hown6 hg6 hb6 B6 Bw hlen
          go_wp2_with (first
            | (go_at_call 18; refine (show Calls Tryz.prog 18 #[.slice (some ⟨g6, 0, none⟩) (2 + b.length) cap6, .int .i64 512] _ _ from cFu).mono ?_; rintro e w7 ⟨rfl, hz7, hB7⟩; clear cFu; have H7 : Hid (w7.heap[w6.heap.size]? = some (.cells ((wb b t gs.length).map u8v).toArray 5 (0, 0)) ∧ Below wr.heap.size wr w7) := ⟨hz7, H6.out.trans (hB7.mono H6.out.size)⟩; clear hz7 hB7)
            | (at_builtin; refine wpList_append_own_at _ rfl _ _ 74 rfl w5.heap.size 76 k0 (.agg #[.int .i64 0, .slice none 0 0]) 2 32 Tryz.underlying74 hk0 hx0 hx1 hx2 rfl (by decide) (.slice p3 l3 c3) gs.length _ rfl (own_belowT (own_belowT HI.out.puts H7.out.2) ((Below.refl _ w7).alloc (Nat.le_refl _) _)) ⟨w7.heap.size, 0, none⟩ 1 1 [.int .i64 gs.length, .slice (some ⟨w6.heap.size, 0, none⟩) 512 512] rfl rfl (cell_two_new _ _ _ _) (by intro u hu; simp at hu; rcases hu with rfl | rfl <;> rfl) (by unfold maxLen; omega) (by omega) (by have h1 := HI.out.below.size; have h2 := H7.out.2.size; simp; omega) ?_; intro v8 w8 hown8 hg8 _ _; have H8 : Hid (w8.ownsRow w5.heap.size 76 2 v8 (gs.length + 1) _ ∧ _) := ⟨hown8, hg8⟩; clear hown8 hg8)
            | (at_builtin; refine Stop.out ?_))
          refine Stop.mk ?_
          refine wpList_append_own_at _ rfl _ _ 29 rfl w5.heap.size 33 j0 (.slice none 0 0) 1 24 Tryz.underlying29 hj0 hy0 hy1 hy2 rfl (by decide) (.slice p4 l4 c4) gs.length _ rfl (HI.out.rows4 H7.out.2 _ _ H8.out.2) ⟨w8.heap.size, 0, none⟩ 1 1 [.slice (some ⟨w6.heap.size, 0, none⟩) 512 512] rfl rfl (cell_one_new _ _ _) (by intro u hu; rw [List.mem_singleton.1 hu]; rfl) (by unfold maxLen; omega) (by omega) (by have h1 := HI.out.below.size; have h2 := H7.out.2.size; have h3 := H8.out.2.size; simp at h3 ⊢; omega) ?_
          intro v9 w9 hown9 hg9 _ _
          have H9 : Hid (IInv w5 w9 b t v8 v9 (gs ++ [w6.heap.size])) := HI.out.snoc H7.out.2 H7.out.1 H8.out.1 H8.out.2 hown9 hg9
          clear hown9 hg9 H8 H7 H6
          go_wp2
          go_roundw
          case rel => exact ⟨gs ++ [w6.heap.size], by simp; omega, by simp, H9⟩
          case measure => simp [intOf]; omega
        · have h0 : gs.length = nb := by omega
          have hge : ¬ (gs.length : Int) < nb := by omega
          obtain ⟨gl, cl, hlv, hgl5, _⟩ := HI.out.puts.form (by omega)
          obtain ⟨rfl, rfl, rfl⟩ : p3 = some ⟨gl, 0, none⟩ ∧ l3 = gs.length ∧ c3 = cl := by cases hlv; exact ⟨rfl, rfl, rfl⟩
          obtain ⟨w6, hmk0, hz6, hB6⟩ := make_runB wr 512 (by omega)
          have hmk : (Instr.makeSlice 33 (.int .i64 512) (.int .i64 512)).run Tryz.prog wr = .ok (.slice (some ⟨wr.heap.size, 0, none⟩) 512 512) w6 := hmk0
          have H6 : Hid (w6.heap[wr.heap.size]? = some (.cells (zeroB.map u8v).toArray 5 (0, 0)) ∧ Below wr.heap.size wr w6) := ⟨hz6, hB6⟩
          clear hlv hmk0 hz6 hB6
          go_wp2_with (at_builtin; refine Stop.out ?_)
          refine Stop.mk ?_
          have own6 : (w6.alloc (.cells #[Value.int .i64 0, Value.slice (some ⟨wr.heap.size, 0, none⟩) 512 512] 76)).ownsRow w5.heap.size 76 2 (.slice (some ⟨gl, 0, none⟩) nb c3) nb (((List.range nb).map fun j => putCells (wput b t gs j)).flatten) := by
            have := own_belowT (own_belowT HI.out.puts H6.out.2) ((Below.refl w6.heap.size w6).alloc (Nat.le_refl _) (.cells #[Value.int .i64 0, Value.slice (some ⟨wr.heap.size, 0, none⟩) 512 512] 76))
            rw [h0] at this
            exact this
          refine wpList_append_keeps _ rfl _ _ 74 rfl w5.heap.size 76 k0 (.agg #[.int .i64 0, .slice none 0 0]) 2 32 Tryz.underlying74 hk0 hx0 hx1 hx2 rfl (by decide) gl nb c3 _ rfl own6 ⟨w6.heap.size, 0, none⟩ 1 1 [.int .i64 0, .slice (some ⟨wr.heap.size, 0, none⟩) 512 512] rfl rfl (cell_two_new _ _ _ _) (by intro u hu; simp at hu; rcases hu with rfl | rfl <;> rfl) (by unfold maxLen; omega) (by omega) (by have h1 := HI.out.below.size; have h2 := H6.out.2.size; simp; omega) ?_
          intro v7 w7 hown7 hg7 hkeep7
          have B6 : Below w5.heap.size w5 w6 := HI.out.below.trans (H6.out.2.mono HI.out.below.size)
          have B7 : Below w5.heap.size w5 w7 := (B6.alloc B6.size _).grown hg7 (by have := B6.size; simp; omega) (fun j e => by simp at e; omega)
          have keep7 : ∀ (g : Nat) cs, w6.heap[g]? = some (Obj.cells cs 5 (0, 0)) → w7.heap[g]? = some (Obj.cells cs 5 (0, 0)) := by
            intro g cs hx
            have a6 := (Below.heap_alloc w6 (.cells #[Value.int .i64 0, Value.slice (some ⟨wr.heap.size, 0, none⟩) 512 512] 76) g (Array.getElem?_eq_some_iff.1 hx).1).trans hx
            exact (hg7.block g (Array.getElem?_eq_some_iff.1 a6).1 (fun e => absurd (own_tag own6 (show (Value.slice (some ⟨gl, 0, none⟩) nb c3).ownBlock = some g from e.symm) a6) (by decide))).trans a6
          have hblk7 : ∀ j, j < nb → w7.heap[gs.getD j 0]? = some (.cells ((wb b t j).map u8v).toArray 5 (0, 0)) := fun j hj => keep7 _ _ (below_block (HI.out.blk j (by omega)) H6.out.2)
          obtain ⟨p7, cap7, rfl, hps7⟩ := puts_more hown7 hblk7 (keep7 _ _ H6.out.1)
          obtain ⟨p8, c8, e8, hpsL⟩ := puts_of_own hkeep7 (by omega) (fun k hk => ⟨by simp [wput, wb_length], by simp only [wput]; exact bytes_block (hblk7 k hk), fun b' o e => by
            have e' : gs.getD k 0 = b' := congrArg Addr.block (Option.some.inj e)
            rw [← e']
            exact ⟨_, _, hblk7 k hk⟩⟩)
          obtain ⟨rfl, rfl⟩ : p8 = some ⟨gl, 0, none⟩ ∧ c8 = c3 := by cases e8; exact ⟨rfl, rfl⟩
          obtain ⟨s, p, c, bs, hI, hz, hsv, hsa, hsn, hsc, hsD, hcont, hM, hR, hlo⟩ := HO.out.st
          have hnbs : nb = nbOf s.d.n := by rw [hsn]; exact HN.out.1
          obtain ⟨pr, cr, er, hrows⟩ := HI.out.rowsAt (by omega)
          obtain ⟨rfl, rfl, rfl⟩ : p4 = pr ∧ l4 = gs.length ∧ c4 = cr := by cases er; exact ⟨rfl, rfl, rfl⟩
          have hRows7 : RowsAt w7 p4 nb (wb b t) := by
            rw [← h0]
            refine ((hrows.below H6.out.2).below ((Below.refl w6.heap.size w6).alloc (Nat.le_refl _) (.cells #[Value.int .i64 0, Value.slice (some ⟨wr.heap.size, 0, none⟩) 512 512] 76))).but (S := fun k => k = gl) (But.of_grown hg7 (fun k e => by simpa using e.symm)) (fun k cs t' fr hk ht e => ?_)
            subst e
            have := own_tag own6 rfl hk
            rcases ht with rfl | rfl <;> exact absurd this (by decide)
          have cNo := vCommit_no p7 ((List.range (nb + 1)).map (wmore b t gs nb wr.heap.size)) cap7 s w7 (hI.below B7) hps7 (fun e => by simp at e) (by simp; omega) (by rw [← hnbs]; exact wmore_no _ _ _ _ _)
          rw [List.length_map, List.length_range, hsv] at cNo
          have HS : Hid (VI w5 s ∧ Bud s (1 + 2 * t) ∧ s.v = v ∧ s.d.a = a ∧ s.d.n = n ∧ s.commits = t ∧ (∀ i, i < nb → s.cont i = bs i) ∧ ModelAt w5 w2.heap.size mB t p nb c ∧ RowsAt w5 p nb bs ∧ (∀ k, (s.mine k ∨ k = mB) → w.heap.size ≤ k) ∧ nb = nbOf s.d.n) := ⟨hI, hz, hsv, hsa, hsn, hsc, hcont, hM, hR, hlo, hnbs⟩
          have H7 : Hid (Below w5.heap.size w5 w7 ∧ PutsAt w7 (some ⟨gl, 0, none⟩) (wputs b t gs nb) ∧ RowsAt w7 p4 nb (wb b t)) := ⟨B7, hpsL, hRows7⟩
          clear er hrows hRows7 own6 hown7 hg7 hkeep7 B6 B7 keep7 hblk7 hps7 hpsL e8 hI hz hsv hsa hsn hsc hsD hcont hM hR hlo hnbs hgl5
          go_wp2_with (go_at_call 42; refine cNo.mono ?_; rintro e w8 ⟨rfl, hB8⟩; clear cNo; refine Stop.out ?_)
          refine Stop.mk ?_
          obtain ⟨hI, hz, hsv, hsa, hsn, hsc, hcont, hM, hR, hlo, hnbs⟩ := HS.out
          have B8 : Below w5.heap.size w5 w8 := H7.out.1.trans (hB8.mono H7.out.1.size)
          obtain ⟨gA, cA, m1, m2⟩ := (hM.below B8).last
          have cN := now_any mB gA t cA p nb c w8 m1 m2 (by omega)
          have cI : ∀ j, Calls Tryz.prog 35 #[dp v, .slice p nb c] (w8.drewN j) fun e w' => e = .returned (.bool true) ∧ Below w8.heap.size w8 w' := fun j => by
            have hj := below_drewN (Below.refl w8.heap.size w8) j
            have := is_any s p nb c bs (w8.drewN j) ((hI.below B8).below hj) hnbs ((hR.below B8).below hj) hcont
            rw [hsv] at this
            exact this.mono fun e w' ⟨h1, h2⟩ => ⟨h1, hj.trans h2⟩
          have H8 : Hid (Below w5.heap.size w5 w8 ∧ Below w7.heap.size w7 w8) := ⟨B8, hB8⟩
          clear hI hz hsv hsa hsn hsc hcont hM hR hlo hnbs B8 m1 m2 hB8
          go_wp2_with (first
            | (go_at_call 36; refine cN.mono ?_; rintro e w9 ⟨rfl, j9, rfl⟩; clear cN; have cI' := cI j9; clear cI)
            | (go_at_call 35; refine cI'.mono ?_; rintro e wa ⟨rfl, hBa⟩; clear cI'; refine Stop.out ?_))
          refine Stop.mk ?_
          obtain ⟨hI, hz, hsv, hsa, hsn, hsc, hcont, hM, hR, hlo, hnbs⟩ := HS.out
          have Ba : Below w5.heap.size w5 wa := H8.out.1.trans (hBa.mono H8.out.1.size)
          have cC := vCommit_any (some ⟨gl, 0, none⟩) (wputs b t gs nb) c8 s (1 + 2 * t) wa (hI.below Ba) (below_tab Ba HO.out.tab.lt HO.out.tab) hz (by omega) ((H7.out.2.1.below H8.out.2).below hBa) (by rw [← hnbs]; exact wputs_good _ _ _ _) (by rw [wputs_length]; omega) (by rw [wputs_length, ← hnbs]; omega)
          rw [wputs_length, hsv] at cC
          have Ha : Hid (Below w5.heap.size w5 wa ∧ Below w8.heap.size w8 wa) := ⟨Ba, hBa⟩
          clear hI hz hsa hsn hsc hcont hM hR hlo hnbs Ba hBa
          go_wp2_with (go_at_call 42; refine cC.mono ?_; rintro e wd ⟨rfl, s1, hI1, hS1, hz1, hc1, hcont1⟩; clear cC; refine Stop.out ?_)
          refine Stop.mk ?_
          have cS := vSync_any s1 (1 + 2 * t + 1) wd hI1 hz1 (by omega)
          rw [hS1.v, hsv] at cS
          have H1 : Hid (VI wd s1 ∧ Step wa wd s s1 ∧ s1.commits = s.commits + 1 ∧ ∀ i, i < nbOf s.d.n → s1.cont i = (laidOn (fun _ => none) (recOf (wputs b t gs nb)) i).getD (s.cont i)) := ⟨hI1, hS1, hc1, hcont1⟩
          clear hI1 hS1 hz1 hc1 hcont1 hsv
          go_wp2_with (go_at_call 38; refine cS.mono ?_; rintro e we ⟨rfl, s2, hI2, hS2, hz2, hc2, hcont2, hD2⟩; clear cS; refine Stop.out ?_)
          refine Stop.mk ?_
          obtain ⟨hI, hz, hsv, hsa, hsn, hsc, hcont, hM, hR, hlo, hnbs⟩ := HS.out
          obtain ⟨hI1, hS1, hc1, hcont1⟩ := H1.out
          have hIa := hI.below Ha.out.1
          have hMe : ModelAt we w2.heap.size mB t p nb c := ((hM.below Ha.out.1).but hS1.but (fun g cs t' fr hk ht => by rcases ht with rfl | rfl <;> exact hIa.other hk (by decide) (by decide) (by decide))).but hS2.but (fun g cs t' fr hk ht => by rcases ht with rfl | rfl <;> exact hI1.other hk (by decide) (by decide) (by decide))
          have hRe : RowsAt we p4 nb (wb b t) := (((H7.out.2.2.below H8.out.2).below Ha.out.2).but hS1.but (fun g cs t' fr hk ht => by rcases ht with rfl | rfl <;> exact hIa.other hk (by decide) (by decide) (by decide))).but hS2.but (fun g cs t' fr hk ht => by rcases ht with rfl | rfl <;> exact hI1.other hk (by decide) (by decide) (by decide))
          obtain ⟨vA, yA, csA, h1A, h2A, h3A⟩ := hMe.at_
          obtain ⟨gA2, cA2, rfl, _, _⟩ := h2A.form (Nat.succ_pos _)
          have m0 := cellOf h1A 0
          have f0 := frozenOf h1A 0
          simp at m0
          have HE : Hid (VI we s2 ∧ RowsAt we p4 nb (wb b t) ∧ we.heap[mB]? = some (.cells #[Value.slice (some ⟨gA2, 0, none⟩) (t + 1) cA2, yA] 68 (0, 0)) ∧ we.ownsRow w2.heap.size 29 1 (.slice (some ⟨gA2, 0, none⟩) (t + 1) cA2) (t + 1) (csA ++ [.slice p nb c])) := ⟨hI2, hRe, h1A, h2A⟩
          clear hI hz hsv hsa hsn hsc hcont hM hR hlo hnbs hI1 hS1 hc1 hcont1 hIa hMe hRe h1A h2A hI2
          go_wp2_with (at_builtin; refine Stop.out ?_)
          refine Stop.mk ?_
          have hwe : w2.heap.size ≤ we.heap.size := by omega
          refine wpList_append_own_at _ rfl _ _ 66 rfl w2.heap.size 29 r0 (.slice none 0 0) 1 24 Tryz.underlying66 hr0 hq0 hq1 hq2 rfl (by decide) (.slice (some ⟨gA2, 0, none⟩) (t + 1) cA2) (t + 1) _ rfl (own_belowT HE.out.2.2.2 ((Below.refl _ we).alloc (Nat.le_refl _) _)) ⟨we.heap.size, 0, none⟩ 1 1 [.slice p4 nb c4] rfl rfl (cell_one_new _ _ _) (by intro u hu; rw [List.mem_singleton.1 hu]; rfl) (by unfold maxLen; omega) (by omega) (by simp; omega) ?_
          intro v9 w9 hown9 hg9 _ _
          obtain ⟨g9, cap9, rfl, _, _⟩ := hown9.form (by omega)
          have hma : (we.alloc (.cells #[Value.slice p4 nb c4] 29)).heap[mB]? = some (.cells #[Value.slice (some ⟨gA2, 0, none⟩) (t + 1) cA2, yA] 68 (0, 0)) := (Below.heap_alloc we _ mB (Array.getElem?_eq_some_iff.1 HE.out.2.2.1).1).trans HE.out.2.2.1
          have hra := own_belowT HE.out.2.2.2 ((Below.refl we.heap.size we).alloc (Nat.le_refl _) (.cells #[Value.slice p4 nb c4] 29))
          have hm9 : w9.heap[mB]? = some (.cells #[Value.slice (some ⟨gA2, 0, none⟩) (t + 1) cA2, yA] 68 (0, 0)) := (hg9.block mB (Array.getElem?_eq_some_iff.1 hma).1 (fun e => absurd (own_tag hra e.symm hma) (by decide))).trans hma
          have n0 := cellOf hm9 0
          have g0 := frozenOf hm9 0
          simp at n0
          have hPush := ModelAt.push hma (by simp [h3A]) hown9 hg9 (fun g cs' t' fr e hk => own_tag hra e hk)
          have H9 : Hid (ModelAt (w9.setCell ⟨mB, 0, none⟩ (.slice (some ⟨g9, 0, none⟩) (t + 1 + 1) cap9)) w2.heap.size mB (t + 1) p4 nb c4 ∧ But (fun k => k = gA2 ∨ k = mB) we (w9.setCell ⟨mB, 0, none⟩ (.slice (some ⟨g9, 0, none⟩) (t + 1 + 1) cap9)) ∧ w2.heap.size ≤ gA2 ∧ we.heap[gA2]? = we.heap[gA2]?) := ⟨hPush, (((But.refl (fun k => k = gA2 ∨ k = mB) we).alloc _).trans (But.of_grown hg9 fun k e => .inl (by simpa [Value.ownBlock] using e.symm))).setCell _ (.inr rfl) _, by omega, rfl⟩
          clear hPush hown9 hg9 hma hra hm9 m0 f0
          go_wp2
          go_roundw
          case rel =>
            obtain ⟨hI, hz, hsv, hsa, hsn, hsc, hcont, hM, hR, hlo, hnbs⟩ := HS.out
            obtain ⟨hI1, hS1, hc1, hcont1⟩ := H1.out
            obtain ⟨hI2, hRe, hme, hre⟩ := HE.out
            obtain ⟨hM9, hb9, hgl9, _⟩ := H9.out
            have tagA : ∀ cs t' fr, we.heap[gA2]? = some (.cells cs t' fr) → t' = 29 := fun cs t' fr hk => own_tag hre rfl hk
            have tagM : ∀ cs t' fr, we.heap[mB]? = some (.cells cs t' fr) → t' = 68 := fun cs t' fr hk => by
              rw [hme] at hk
              simp only [Option.some.injEq, Obj.cells.injEq] at hk
              exact hk.2.1.symm
            obtain ⟨gA3, capA3, curA3, hblkA⟩ : ∃ g cap cur, (Value.slice (some ⟨gA2, 0, none⟩) (t + 1) cA2) = .slice (some ⟨g, 0, none⟩) (t + 1) cap ∧ we.heap[g]? = some (.cells cur 29 (0, 0)) := by
              rcases hre.2 with ⟨e, _⟩ | ⟨g, cap, cur, e, _, hb, _⟩
              · cases e
              · exact ⟨g, cap, cur, e, hb⟩
            have hblkA2 : we.heap[gA2]? = some (.cells curA3 29 (0, 0)) := by
              obtain ⟨e, hb⟩ := hblkA
              cases e
              exact hb
            have hIf := hI2.but hb9 (fun k hk e => by
              rcases e with rfl | rfl
              · exact hI2.other hblkA2 (by decide) (by decide) (by decide) hk
              · exact hI2.other hme (by decide) (by decide) (by decide) hk) (fun g cs t' fr hk ht e => by
              rcases e with rfl | rfl
              · have := tagA _ _ _ hk; rcases ht with rfl | rfl <;> exact absurd this (by decide)
              · have := tagM _ _ _ hk; rcases ht with rfl | rfl <;> exact absurd this (by decide))
            have hRf := hRe.but hb9 (fun g cs t' fr hk ht e => by
              rcases e with rfl | rfl
              · have := tagA _ _ _ hk; rcases ht with rfl | rfl <;> exact absurd this (by decide)
              · have := tagM _ _ _ hk; rcases ht with rfl | rfl <;> exact absurd this (by decide))
            have hsz5 := HO.out.below.size
            have hsza := Ha.out.1.size
            have hszd := hS1.but.size
            have low0 : ∀ k, s.mine k → w.heap.size ≤ k := fun k hk => hlo k (.inl hk)
            have low1 := hS1.low (B := w.heap.size) (by omega) low0
            have low2 := hS2.low (B := w.heap.size) (by omega) low1
            have Ba : Below w.heap.size w wa := HO.out.below.trans (Ha.out.1.mono hsz5)
            have Bd : Below w.heap.size w wd := Ba.trans (hS1.but.below (by omega) low0)
            have Be : Below w.heap.size w we := Bd.trans (hS2.but.below (by omega) low1)
            have hlomB := hlo mB (.inr rfl)
            have hw2 := HN.out.2.2
            have Bf := Be.trans (hb9.below (B := w.heap.size) Be.size (fun k e => by rcases e with rfl | rfl <;> omega))
            refine ⟨t + 1, by omega, by go_num, ⟨s2, p4, c4, wb b t, hIf, ?_, by rw [hS2.v, hS1.v]; exact hsv, by rw [hS2.near.a, hS1.near.a]; exact hsa, by rw [hS2.n, hS1.n]; exact hsn, by rw [hc2, hc1, hsc], hD2, fun i hi => ?_, hM9, hRf, ?_⟩, below_tab Bf HT.out.1.lt HT.out.1, Bf⟩
            · have e : 1 + 2 * (t + 1) = 1 + 2 * t + 1 + 1 := by omega
              rw [e]; exact hz2
            · rw [hcont2, hcont1 i (by omega), wputs_laid _ _ _ _ _ hi]
            · rintro k (hk | rfl)
              · exact low2 k hk
              · exact hlomB
          case measure => simp [intOf]; omega
    · obtain rfl : t = T := by omega
      obtain ⟨s, p, c, bs, hI, hz, hsv, hsa, hsn, hsc, hsD, hcont, hM, hR, hlo⟩ := HO.out.st
      have hnbs : nb = nbOf s.d.n := by rw [hsn]; exact HN.out.1
      have hltI : ¬ (t : Int) < t := by omega
      have cC := dev_crash_flushed s.d w5 hI.dev hsD
      rw [hsa] at cC
      obtain ⟨z1, z2, z3, z4⟩ := hz
      have HS : Hid (VI w5 s ∧ nb = nbOf s.d.n ∧ s.commits = t ∧ (∀ i, i < nb → s.cont i = bs i) ∧ ModelAt w5 w2.heap.size mB t p nb c ∧ RowsAt w5 p nb bs ∧ s.turn ≤ 1 + 2 * t + 1) := ⟨hI, hnbs, hsc, hcont, hM, hR, z4⟩
      clear hI z1 z2 z3 z4 hsc hcont hM hR hnbs hlo hsD
      go_wp2_with (go_at_call 40; refine cC.mono ?_; rintro e w6 ⟨a6, s6, c6, m6, rfl, hd6, hB6, _⟩; clear cC; refine Stop.out ?_)
      refine Stop.mk ?_
      obtain ⟨hI, hnbs, hsc, hcont, hM, hR, hturn⟩ := HS.out
      have B6 : Below w.heap.size w w6 := HO.out.below.trans (hB6.mono HO.out.below.size)
      have cM := mount_log s { newDS a6 s6 c6 m6 s.d.n with B := s.d.B } w6 hI.lg hd6 (below_tab B6 HT.out.1.lt HT.out.1) hI.n16 hI.n200 rfl rfl rfl rfl (by omega) (by omega)
      have H6 : Hid (Below w5.heap.size w5 w6) := hB6
      clear hI hnbs hsc hcont hM hR hturn hd6 hB6 B6
      go_wp2_with (go_at_call 39; refine cM.mono ?_; rintro e w7 ⟨s7, rfl, hI7, hd7, hc7, _, _, hB7, _, _, hcont7⟩; clear cM; refine Stop.out ?_)
      refine Stop.mk ?_
      obtain ⟨hI, hnbs, hsc, hcont, hM, hR, hturn⟩ := HS.out
      have B7 : Below w5.heap.size w5 w7 := H6.out.trans (hB7.mono H6.out.size)
      obtain ⟨gA, cA, m1, m2⟩ := (hM.below B7).last
      have cN := now_any mB gA t cA p nb c w7 m1 m2 (by omega)
      have hn7 : nb = nbOf s7.d.n := by rw [hd7]; exact hnbs
      have cI : ∀ j, Calls Tryz.prog 35 #[dp s7.v, .slice p nb c] (w7.drewN j) fun e w' => e = .returned (.bool true) ∧ Below w7.heap.size w7 w' := fun j => by
        have hj := below_drewN (Below.refl w7.heap.size w7) j
        have := is_any s7 p nb c bs (w7.drewN j) (hI7.below hj) hn7 ((hR.below B7).below hj) (fun i hi => by rw [hcont7]; exact hcont i hi)
        exact this.mono fun e w' ⟨h1, h2⟩ => ⟨h1, hj.trans h2⟩
      have hv7 : ∀ W, Below w7.heap.size w7 W → Calls Tryz.prog 37 #[dp s7.v] W fun e w' => e = .returned (.int .i64 (t : Nat)) ∧ ∃ k, w' = W.drewN k := fun W hW => by
        have hI' := hI7.below hW
        have := vCommits s7.v s7.commits s7.turn s7.next (some s7.f) s7.d W hI'.vol hI'.dev
        rw [hc7, hsc] at this
        exact this
      have H7 : Hid (Below w5.heap.size w5 w7) := B7
      generalize s7.v = v7 at *
      clear hI hnbs hsc hcont hM hR hturn B7 m1 m2 hI7 hd7 hc7 hB7 hcont7 hn7
      go_wp2_with (first
        | (go_at_call 36; refine cN.mono ?_; rintro e w8 ⟨rfl, j8, rfl⟩; clear cN; have cI' := cI j8; clear cI)
        | (go_at_call 35; refine cI'.mono ?_; rintro e w9 ⟨rfl, hB9⟩; clear cI'; have cV := hv7 w9 hB9; have H9 : Hid (Below w7.heap.size w7 w9) := hB9; clear hv7 hB9)
        | (go_at_call 37; refine cV.mono ?_; rintro e wA ⟨rfl, kA, rfl⟩; clear cV))
      go_ret
      refine ⟨by simp, ?_⟩
      have h9 : Below w5.heap.size w5 w9 := H7.out.trans (H9.out.mono H7.out.size)
      exact below_drewN (HO.out.below.trans (h9.mono HO.out.below.size)) kA

end Go.Proofs.YtdepdcndfofknaaGreatDoor

namespace Go.Proofs.YtdepdcndfofknaaGreatDoor
open Go.ChangeShapes Go.WideShapes Go.ChangeAt Go.RowKit Go.Deep

/-- Bytes that came in, and how many there may be. -/
theorem bytes_at_sized {H : Type} {enc : TypeId × Value → H} {W : World} {v : Value} {y : DataW H} {ps : List MemPlace} (h : DataW.Trod enc Tryz.prog W 0 (fun _ => true) true 33 v y ps) :
    v.cells.toList = [v] → ∃ (p : Option Addr) (c : Nat) (bs : List (BitVec 8)), v = .slice p bs.length c ∧ bs.length ≤ c ∧ Bytes W p bs ∧ (y = .nil ∧ bs.length = 0 ∨ ∃ elems spare, y = .slice elems spare ∧ bs.length = elems.length) := by
  intro hv
  obtain ⟨fuel, hf⟩ := h
  rcases open_ints Tryz.underlying33 Tryz.underlying5 Tryz.cells5 hf with ⟨hcs, hx⟩ | ⟨a, len, cap, zs, hcs, _, hl, hm, hz, hx, hcell, hw⟩
  · rw [hv] at hcs
    simp at hcs
    exact ⟨none, 0, [], hcs, Nat.le_refl _, fun h => absurd h (by decide), .inl ⟨(Prod.mk.inj hx).1, rfl⟩⟩
  · rw [hv] at hcs
    simp at hcs
    have hz' : zs.length = cap := by simpa using hz
    obtain ⟨hb, hlen⟩ := bytes_of_cells (W := W) (a := some a) hl hz' hw (fun h => by cases h) (fun a' e i hi => by cases e; exact hcell i (by omega))
    refine ⟨some a, cap, _, by rw [hlen]; exact hcs, by rw [hlen]; exact hl, hb, .inr ⟨_, _, (Prod.mk.inj hx).1, ?_⟩⟩
    rw [hlen]
    simp [lits]
    omega

set_option maxRecDepth 8000 in
set_option maxHeartbeats 1000000 in
theorem whole_out (blocks : Int) (bp : Option Addr) (bl bc : Nat) (T : Int) (w : World) (ht : Tab w) (hlo : -9223372036854775808 ≤ blocks) (hhi : blocks < 9223372036854775808) (hT : T < 1 ∨ 30 < T) :
    Calls Tryz.prog 8 #[.int .i64 blocks, .slice bp bl bc, .int .i64 T] w fun e w' => e = .returned (.bool true) ∧ Below w.heap.size w w' := by
  have c1 := begun_true w ht
  have c2 := fun W => size_any blocks W hlo hhi
  have HT : Hid (Tab w) := ht
  clear ht
  rcases hT with hT | hT
  · go_enter Tryz.func8, Tryz.ntmps8
    go_wp2_with (first
      | (go_at_call 31; refine c1.mono ?_; rintro e w1 ⟨rfl, hB1⟩; clear c1)
      | (go_at_call 33; refine (c2 _).mono ?_; rintro e w2 ⟨n, rfl, hn16, hn135, rfl⟩; clear c2; have cF := fresh_any n w2 (below_tab hB1 HT.out.lt HT.out) hn16 (by omega))
      | (go_at_call 32; refine cF.mono ?_; rintro e w3 ⟨s, mB, rfl, p, c, hF⟩; clear cF))
    go_ret
    exact ⟨by simp, hB1.trans (hF.below.mono hB1.size)⟩
  · have hT' : ¬ T < 1 := by omega
    go_enter Tryz.func8, Tryz.ntmps8
    go_wp2_with (first
      | (go_at_call 31; refine c1.mono ?_; rintro e w1 ⟨rfl, hB1⟩; clear c1)
      | (go_at_call 33; refine (c2 _).mono ?_; rintro e w2 ⟨n, rfl, hn16, hn135, rfl⟩; clear c2; have cF := fresh_any n w2 (below_tab hB1 HT.out.lt HT.out) hn16 (by omega))
      | (go_at_call 32; refine cF.mono ?_; rintro e w3 ⟨s, mB, rfl, p, c, hF⟩; clear cF))
    go_ret
    exact ⟨by simp, hB1.trans (hF.below.mono hB1.size)⟩

theorem whole_any (blocks : Int) (bp : Option Addr) (bc : Nat) (b : By) (T : Int) (w : World) (ht : Tab w) (hlo : -9223372036854775808 ≤ blocks) (hhi : blocks < 9223372036854775808) (hb : Bytes w bp b) (hbl : b.length ≤ 140737488351232) :
    Calls Tryz.prog 8 #[.int .i64 blocks, .slice bp b.length bc, .int .i64 T] w fun e w' => e = .returned (.bool true) ∧ Below w.heap.size w w' := by
  by_cases h : T < 1 ∨ 30 < T
  · exact whole_out blocks bp _ bc T w ht hlo hhi h
  · obtain ⟨t, rfl⟩ := Int.eq_ofNat_of_zero_le (show 0 ≤ T by omega)
    exact whole_many blocks bp bc b t w ht hlo hhi hb hbl (by omega) (by omega)

set_option maxRecDepth 100000 in
theorem wwhole_contract (H : Type) (enc : TypeId × Value → H) (W : World) (base : Nat) (args : Array Value) (ds gs : List (DataW H)) (before : List MemPlace)
    (hval : ∀ (j : Nat) t v, Tryz.f8.params[j]? = some t → args[j]? = some v → Value.okWide Tryz.prog W .any base t v)
    (hW : DataW.Whole enc Tryz.prog Tryz.f8.params.toList Rows.walWholeSpec.vars false W args.toList ds gs before)
    (hz : (DataW.weightsEach Tryz.prog (Tryz.f8.params.toList ++ (OpenSpec.ofChange Rows.walWholeSpec).bare.plain.varTypes Tryz.prog) (ds ++ gs)).all (· ≤ reachBytes) = true) (hL : laidMetH Tryz.prog Rows.walWholeRow.laid W) :
    Calls Tryz.prog 8 args W fun e W' => ∃ v, e = .returned v ∧ Rows.walWholeSpec.post enc Tryz.prog Tryz.f8 false true false false W args v W' := by
  have hW' := hW
  obtain ⟨p, q, hA0, hV, rfl, hfz, hnd⟩ := hW
  have hA : DataW.TrodAll enc Tryz.prog W 0 (fun _ => true) true Tryz.f8.params.toList args.toList ds p := hA0
  rw [Tryz.params8] at hA hval hz
  obtain ⟨v0, vs0, d0, ds0, p0, q0, hargs, rfl, rfl, h0, r0⟩ := trodAll_cons hA
  obtain ⟨v1, vs1, d1, ds1, p1, q1, rfl, rfl, rfl, h1, r1⟩ := trodAll_cons r0
  obtain ⟨v2, vs2, d2, ds2, p2, q2, rfl, rfl, rfl, h2, r2⟩ := trodAll_cons r1
  obtain ⟨rfl, rfl, rfl⟩ := trodAll_nil r2
  obtain rfl : args = #[v0, v1, v2] := by cases args; simp_all
  obtain ⟨rfl, rfl⟩ := trodVars_none hV
  obtain ⟨a0, rfl, rfl, rfl, w0⟩ := open_int Tryz.underlying3 (hval 0 3 v0 rfl rfl) h0
  obtain ⟨a2, rfl, rfl, rfl, w2⟩ := open_int Tryz.underlying3 (hval 2 3 v2 rfl rfl) h2
  obtain ⟨a1, len1, cap1, hv1⟩ := okWide_slice Tryz.underlying33 (hval 1 33 v1 rfl rfl)
  have k1 := h1
  have lt1 : ∀ x ∈ p1, x.block < W.heap.size := by obtain ⟨m, hm⟩ := k1; exact DataW.trod_lt m _ _ _ hm
  obtain ⟨bp, bc, bs, hv, hbl, hb, hy⟩ := bytes_at_sized h1 (by rw [hv1]; rfl)
  have hsz : bs.length ≤ 140737488351232 := by
    rcases hy with ⟨_, h⟩ | ⟨elems, spare, rfl, h⟩
    · omega
    · have := sized_slice hz (j := 1) (t := 33) (e := 5) (elems := elems) (spare := spare) rfl rfl Tryz.underlying33
      rw [show Tryz.prog.bytesOf 5 = 1 by kernel_rfl] at this
      unfold reachBytes at this
      omega
  subst hv
  clear hA0 hv1
  refine (whole_any a0 bp bc bs a2 W (tab_of_laid hL) (i64_wf w0).1 (i64_wf w0).2 hb hsz).mono fun e W' ⟨he, bel⟩ => ?_
  subst he
  exact ⟨_, rfl, _, _, _, [], _, [], hW', trodAll_mk1 (shut_bool Tryz.underlying4 _),
    (trodAll_cons_mk (shut_int Tryz.underlying3 w0) (trodAll_cons_mk (Below.trod laidOut (by kernel_rfl) (of_decide_eq_true (by kernel_rfl)) k1 bel lt1) (trodAll_cons_mk (shut_int Tryz.underlying3 w2) trodAll_mk0))), rfl, bel.frame _, fun h => by cases h⟩

theorem wwhole_laid_met (os : Os) : laidMet Tryz.prog Rows.walWholeRow.laid ((World.doorLaid Tryz.prog 400 os).forCall (fun _ _ => 0) ⟨#[], #[.int .i64 0, .slice none 0 0, .int .i64 0], []⟩).memory :=
  laidMet_of_run' 20 (by kernel_rfl) (by kernel_rfl)
theorem wwhole_reads (os : Os) {H : Type} (enc : TypeId × Value → H) : ∃ places, DataW.whole enc Tryz.prog ((World.doorLaid Tryz.prog 400 os).forCall (fun _ _ => 0) ⟨#[], #[.int .i64 0, .slice none 0 0, .int .i64 0], []⟩).memory Tryz.f8.params.toList Rows.walWholeSpec.vars false (#[.int .i64 0, .slice none 0 0, .int .i64 0] : Array Value).toList 8 = some ([.lit (.int .i64 0), .nil, .lit (.int .i64 0)], [], places) :=
  ⟨[], by kernel_rfl⟩

set_option maxRecDepth 100000 in
theorem wwhole_lifted (os : Os) (started : os.Started) (H : Type) (enc : TypeId × Value → H) (F : Stop.Interp) :
    ReturnsInHanded {} Tryz.checked os 8 .any ((OpenSpec.ofChange Rows.walWholeSpec).preRow enc Tryz.prog Tryz.f8 Rows.walWholeRow.domain false Rows.walWholeRow.laid) (((OpenSpec.ofChange Rows.walWholeSpec).at F).post enc Tryz.prog Tryz.f8 false true false false) := by
  obtain ⟨places, hx⟩ := wwhole_reads os enc
  refine returnsInHanded_of_row (C := Tryz.checked) (s := OpenSpec.ofChange Rows.walWholeSpec) own started (by kernel_rfl) Tryz.func8
    (witness_row_at (enc := enc) (C := Tryz.checked) false (World.doorLaid Tryz.prog 400 os) #[.int .i64 0, .slice none 0 0, .int .i64 0] rfl (by kernel_rfl) (by kernel_rfl) (by kernel_rfl)
      (OpenSpec.preRow_of_cond 8 hx (by kernel_rfl) (fun k hk => by cases hk) (by kernel_rfl) (wwhole_laid_met os))) ?_
  intro W base args ds gs before hval hW _ _ hz hL _ _
  exact wwhole_contract H enc W base args ds gs before hval hW hz hL

theorem wwhole_said : Rows.WalWholeSaid :=
  OpenClaim.holds_of_cond 8 Tryz.f8 rfl rfl rfl rfl rfl rfl rfl ⟨rfl, rfl, rfl, rfl, rfl⟩ rfl rfl rfl rfl rfl (by kernel_rfl) Tryz.func8 (by kernel_rfl)
    (of_decide_eq_true (by kernel_rfl)) (by unfold Func.isWrapper; first | (rw [if_pos (by decide +kernel)]; kernel_rfl) | (rw [if_neg (by decide +kernel)]; exact ⟨rfl, rfl⟩))
    (fun os started H enc _ F => by rw [OpenClaim.pre_eq_preRow]; exact wwhole_lifted os started H enc F)

theorem wwhole_plain (f : FuncId) (fn : Func) (hf : Tryz.pinned.checked.prog.funcNamed "lagoon/lagoonlaw6.WalWhole" = some f) (hfn : Tryz.pinned.checked.prog.funcs[f]? = some fn) :
    true = Tryz.pinned.checked.prog.looks [] ∧ ∀ (j : Nat) t, fn.params[j]? = some t → Tryz.pinned.checked.prog.wantsStandIn t = false := by
  obtain rfl : f = 8 := Option.some.inj ((show Tryz.prog.funcNamed "lagoon/lagoonlaw6.WalWhole" = some 8 by kernel_rfl).symm.trans hf) |>.symm
  obtain rfl : fn = Tryz.f8 := (Option.some.inj (Tryz.func8.symm.trans hfn)).symm
  refine ⟨by kernel_rfl, fun j t ht => ?_⟩
  rw [Tryz.params8] at ht
  have hm : t ∈ [3, 33, 3] := by simpa using Array.mem_of_getElem? ht
  have hall : ([3, 33, 3].all fun u => !Tryz.prog.wantsStandIn u) = true := by kernel_rfl
  exact (show Tryz.prog.wantsStandIn t = false by simpa using List.all_eq_true.1 hall t hm)

theorem walWhole_holds : Rows.WalWholeCardSaid :=
  Claim7.holds_tied_plain_at .later [] _ _ _ _ wwhole_said (fun _ h => by cases h) (by kernel_rfl) (fun _ h => by cases h) walWhole_row_tie rfl ⟨rfl, rfl⟩ (by kernel_rfl) rfl wwhole_plain (by kernel_rfl)

#print axioms walWhole_holds
end Go.Proofs.YtdepdcndfofknaaGreatDoor
