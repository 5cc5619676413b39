/-
  writeHomes of package wal, whatever the log holds.
-/
import Derived.Test.YtphedokdckoccaaGreatDoorWhkeys
import Derived.Test.YtphedokdckoccaaGreatDoorWrst
namespace Go.Proofs.YtphedokdckoccaaGreatDoor
open Go.RowKit Go.Maps Go.Sort Go.Shelf

theorem slook_un {w : World} {m nn : Nat} {D : DataW Value} (h : w.ownsMap Tryz.prog 3 slElem m nn D) {i : Nat} (hi : i < 9223372036854775808) :
    ∃ p n c, (Instr.lookup 95 (.map (some m)) (.int .i64 i) false).run Tryz.prog w = .ok (.slice p n c) w ∧ D.atKey (.int .i64 i) (slD none 0 0) = slD p n c := by
  obtain ⟨v, ps, hrun, hv⟩ := h.lookup keyed Tryz.underlying95 (Tryz.zero55 w) (zd := slD none 0 0) (zp := []) rfl (key_i64 hi)
  obtain ⟨p, n, c, rfl, hz⟩ := slElem_inv hv
  simp only [Prod.mk.injEq] at hz
  exact ⟨p, n, c, hrun, hz.1⟩

/-- The device behind some homes. -/
def DS.homedBy (d : DS) (fr : Nat → Option By) (l : List Nat) (D : DataW Value) : DS := { d with nn := d.nn + l.length, D := D, B := putHomes d.B fr l, count := d.count + l.length }

/-- What writeHomes has done behind the first k keys. -/
structure HInv (w W : World) (d : DS) (v commits turn next f nf : Nat) (count : Int) (F : DataW Value) (fr : Nat → Option By) (nb k : Nat) (p : Option Addr) : Prop where
  vol : IsVol W v (dp d.a) commits turn next (some f) count
  dev : ∃ D, Dev W (d.homedBy fr ((homeKeys fr nb).take k) D)
  fresh : Fresh W f nf F fr
  src : 0 < (homeKeys fr nb).length → ∃ g cur, p = some ⟨g, 0, none⟩ ∧ W.heap[g]? = some (.cells cur 3 (0, 0)) ∧ ∀ (k : Nat) (x : Nat), (homeKeys fr nb)[k]? = some x → cur[k]? = some (.int .i64 x)
  but : But d.mine w W

set_option maxRecDepth 8000 in
set_option maxHeartbeats 4000000 in
theorem writeHomes_any (v : Nat) (commits turn next f nf nb : Nat) (count : Int) (F : DataW Value) (fr : Nat → Option By) (d : DS) (w : World) (h : IsVol w v (dp d.a) commits turn next (some f) count) (hd : Dev w d) (hF : Fresh w f nf F fr) (hfm : f ≠ d.m)
    (hfr : ∀ i, nb ≤ i → fr i = none) (hnb : 1 + nb ≤ d.n) (hnf : nf ≤ 1000000) (hfu : d.fused = false) (hcn : d.count < 800000000) :
    Calls Tryz.prog 179 #[dp v] w fun e w' => e = .returned (.int .i64 0) ∧ But d.mine w w' ∧ ∃ D, Dev w' (d.homedBy fr (homeKeys fr nb) D) := by
  have hle := hd.hn
  have hkeys := fresh_keys hF hfr (by omega)
  have hL := homeKeys_len fr nb
  obtain ⟨L, hLe⟩ : ∃ L, L = homeKeys fr nb := ⟨_, rfl⟩
  rw [← hLe] at hkeys hL
  have hsz : Maps.size F ≤ nf := hF.own.size_le
  refine (callsIn_wide (n := 6)).1 ?_
  have hown := hF.own
  have hbl := hown.lt
  have k4 := cellOf h 4
  simp [volCells] at k4
  have hseq : SeqGives Fence.wide 2 Tryz.prog 213 #[.pointer (some ⟨w.heap.size, 0, none⟩)] encZ (fun ss => ss.Perm (intKeys F)) (Maps.size F) (w.alloc (.cells #[.map (some f)] 95)) :=
    AnyZI.keys_gives (ρ := Tryz.keysB_ren) { Tryz.keysB with } Fence.wide _ trivial rfl (by omega) w.heap.size f nf F _ (by simp) (by simp) (by
      obtain ⟨es, clock, hb, Ft, hs, hD⟩ := hown
      exact ⟨es, clock, (Below.heap_alloc _ _ f hbl).trans hb, Ft, hs, hD⟩)
  have cK : ∀ mb W, CallsIn Fence.wide 5 Tryz.prog 195 #[.map mb] W fun e w' => e = .returned (.func (.func 213) #[] #[.pointer (some ⟨W.heap.size, 0, none⟩)]) ∧ w' = W.alloc (.cells #[.map mb] 95) := fun mb W => AnyZI.keys_in Tryz.keysB Fence.wide 5 trivial rfl mb W
  have cS := AnyZI.sorted_in Tryz.sortedA Fence.wide 5 trivial trivial trivial trivial rfl (by omega) (sortsA _) (enters_of Tryz.func155 (by kernel_rfl) rfl) 213 #[.pointer (some ⟨w.heap.size, 0, none⟩)] trivial (enters_of Tryz.func213 (by kernel_rfl) rfl) _ _ (show Maps.size F ≤ maxLen by unfold maxLen; omega) (show Maps.size F * 8 ≤ _ by omega) _ hseq
  change CallsIn _ _ Tryz.prog 116 _ _ _ at cS
  have cS' : CallsIn Fence.wide 5 Tryz.prog 116 #[.func (.func 213) #[] #[.pointer (some ⟨w.heap.size, 0, none⟩)]] (w.alloc (.cells #[.map (some f)] 95)) fun e w' => ∃ p cp, e = .returned (.slice p L.length cp) ∧ Below w.heap.size w w' ∧
      (0 < L.length → ∃ g cur, p = some ⟨g, 0, none⟩ ∧ w'.heap[g]? = some (.cells cur 3 (0, 0)) ∧ ∀ (k : Nat) (x : Nat), L[k]? = some x → cur[k]? = some (.int .i64 x)) := by
    refine cS.mono ?_
    rintro e w' ⟨u, ss, rfl, hperm, hrow, hnil, hb⟩
    have hk : ss.mergeSort (fun x y => decide (x ≤ y)) = keys F := mergeSort_of_perm_i hperm
    have hlen : ss.length = L.length := by
      have : (ss.mergeSort (fun x y => decide (x ≤ y))).length = L.length := by rw [hk, hkeys]; simp
      simpa using this
    rw [hk, hlen, hkeys] at hrow
    have hB' : Below w.heap.size w w' := ((Below.refl _ w).alloc (Nat.le_refl _) _).trans (hb.mono (by simp))
    obtain ⟨_, hrow⟩ := hrow
    rcases hrow with ⟨rfl, h0⟩ | ⟨g, cap, cur, rfl, hg, hblk, hcap, _, hsz, htk⟩
    · exact ⟨none, 0, by rw [h0], hB', fun hp => by omega⟩
    · refine ⟨_, cap, rfl, hB', fun _ => ⟨g, cur, rfl, hblk, fun k x hx => ?_⟩⟩
      have h1 : (cur.toList.take (L.length * 1))[k]? = some (encZ x) := by rw [htk]; simp [hx]
      rw [List.getElem?_take] at h1
      split at h1
      · simpa [encZ] using h1
      · cases h1
  have hfK : Fence.wide.fn 195 := trivial
  have hfS : Fence.wide.fn 116 := trivial
  have H0 : Hid (IsVol w v (dp d.a) commits turn next (some f) count ∧ Dev w d ∧ Fresh w f nf F fr ∧ L = homeKeys fr nb) := ⟨h, hd, hF, hLe⟩
  clear hown h hd hF hseq cS hkeys hLe
  refine callsIn_of_wp Tryz.func179 rfl trivial ?_ rfl
  simp only [Tryz.ntmps179, List.size_toArray, List.length_cons, List.length_nil, Nat.reduceAdd, Nat.reduceSub, Array.replicate_succ, Array.replicate_zero, List.push_toArray, List.append_toArray, List.nil_append, List.cons_append]
  gi_wp2_with (first
    | (gi_at_call 195; refine (cK _ _).mono ?_; rintro e w' ⟨rfl, rfl⟩)
    | (gi_at_call 116; refine cS'.mono ?_; rintro e w2 ⟨p, cp, rfl, hB2, hsrc⟩; clear cS'))
  have start : Hid (HInv w w2 d v commits turn next f nf count F fr nb 0 p) := by
    obtain ⟨h, hd, hF, hLe⟩ := H0.out
    refine ⟨h.below hB2, ⟨d.D, ?_⟩, hF.below hB2, by rw [← hLe]; exact hsrc, But.of_below hB2⟩
    have e : d.homedBy fr ((homeKeys fr nb).take 0) d.D = d := by unfold DS.homedBy; rw [List.take_zero, putHomes_nil]; simp
    rw [e]
    exact hd.below hB2
  clear hsrc
  refine wpIn_wide.2 ?_
  go_loopw [13] (fun ii wr => ∃ k : Nat, k ≤ L.length ∧ ii = .int .i64 k ∧ Hid (HInv w wr d v commits turn next f nf count F fr nb k p)) (fun ii _ => L.length - (intOf ii).toNat)
  case atStart => exact ⟨0, Nat.zero_le _, rfl, start⟩
  case round =>
    clear start
    obtain ⟨k, hk, rfl, HI⟩ := hrel
    by_cases hlt : k < L.length
    · have hltI : (k : Int) < L.length := by omega
      have hi := HI.out
      have hLe := H0.out.2.2.2
      obtain ⟨i, hx⟩ : ∃ i, L[k]? = some i := ⟨_, List.getElem?_eq_getElem hlt⟩
      have hmem : i ∈ homeKeys fr nb := by rw [← hLe]; exact List.mem_of_getElem? hx
      obtain ⟨hin, hsome⟩ := homeKeys_mem.1 hmem
      obtain ⟨b, hb⟩ : ∃ b, fr i = some b := Option.isSome_iff_exists.1 hsome
      obtain ⟨g3, cur3, hp3, hb3, hc3⟩ := hi.src (by rw [← hLe]; omega)
      subst hp3
      have l3 : wr.cell? ⟨g3, k, none⟩ = some (.int .i64 i) := (cellOf hb3 k).trans (hc3 k _ (by rw [← hLe]; exact hx))
      have y0 : wr.drew.cell? ⟨v, 0, none⟩ = some (dp d.a) := by have := cellOf hi.vol 0; simpa [volCells] using this
      have y4 : wr.drew.cell? ⟨v, 4, none⟩ = some (.map (some f)) := by have := cellOf hi.vol 4; simpa [volCells] using this
      obtain ⟨hbl512, g0, cp0, hat, hcp0, hbb0, _⟩ := hi.fresh.val i b (by omega) hb
      have lk : (Instr.lookup 95 (.map (some f)) (.int .i64 i) false).run Tryz.prog wr.drew = .ok (.slice (some ⟨g0, 0, none⟩) 512 cp0) wr.drew := by
        have hown : wr.drew.ownsMap Tryz.prog 3 slElem f nf F := hi.fresh.own
        obtain ⟨p, n, c, hrun, he⟩ := slook_un hown (i := i) (by omega)
        rw [hat] at he
        simp only [slD, DataW.held.injEq, Value.slice.injEq] at he
        obtain ⟨rfl, rfl, rfl⟩ := he
        exact hrun
      have c16 := fun W => homeOf_any i W (by omega)
      obtain ⟨D, hdk⟩ := hi.dev
      rw [← hLe] at hdk
      have hlk : (L.take k).length = k := by rw [List.length_take]; omega
      have cW : Calls Tryz.prog 142 #[dp d.a, .int .i64 ((1 + i : Nat) : Int), .slice (some ⟨g0, 0, none⟩) 512 cp0] wr.drew fun e w' => e = .returned (.int .i64 0) ∧ Hid (HInv w w' d v commits turn next f nf count F fr nb (k + 1) (some ⟨g3, 0, none⟩)) := by
        refine (dev_write (d.homedBy fr (L.take k) D) (1 + i) b g0 0 cp0 wr.drew hdk.drew (by show 1 + i < d.n; omega) hbl512 hbb0 (by show (d.fused && _) = false; rw [hfu]; rfl) (by show d.count + (L.take k).length < _; rw [hlk]; omega)).mono ?_
        rintro e w' ⟨rfl, hbx, q, _, hdx⟩
        have hbx' : But d.mine wr w' := ⟨hbx.os, hbx.tape, hbx.output, hbx.size, hbx.block⟩
        refine ⟨rfl, hi.vol.but hbx' (fun hm => IsVol.mine (d := d.homedBy fr (L.take k) D) hi.vol hdk hm), ⟨loosened D (1 + i) q, ?_⟩, hi.fresh.but hbx' ?_ (fun k' cs fr' hk' => Dev.other (d := d.homedBy fr (L.take k) D) hdk hk' (by decide) (by decide)), fun hp => ?_, hi.but.trans hbx'⟩
        · rw [← hLe]
          have e2 : (d.homedBy fr (L.take k) D).wrote (1 + i) b (loosened D (1 + i) q) = d.homedBy fr (L.take (k + 1)) (loosened D (1 + i) q) := by
            unfold DS.wrote DS.homedBy
            simp only [putHomes_step d.B fr hx hb, hfu, stepped, hlk]
            have : (L.take (k + 1)).length = k + 1 := by rw [List.length_take]; omega
            rw [this]
            simp [Nat.add_assoc]
            omega
          rw [← e2]
          exact hdx
        · rintro (e | e | e)
          · obtain ⟨es, clock, hm, _⟩ := hi.fresh.own; exact map_cells_ne hm hdk.dev e
          · obtain ⟨es, clock, hm, _⟩ := hi.fresh.own; obtain ⟨_, hr, _⟩ := hdk.row; exact map_cells_ne hm hr e
          · exact hfm e
        · refine ⟨g3, cur3, rfl, (hbx'.block g3 (Array.getElem?_eq_some_iff.1 hb3).1 (Dev.other (d := d.homedBy fr (L.take k) D) hdk hb3 (by decide) (by decide))).trans hb3, hc3⟩
      clear hi hLe hx hmem hin hsome hb hb3 hc3 hat hcp0 hbb0 hdk hlk hbl512
      go_wp2_with fail
      go_region_with (first
        | (go_at_call 87; refine Calls_on (c16 _) ?_)
        | (go_at_call 142; refine cW.mono ?_; rintro e W2 ⟨rfl, HI2⟩))
      all_goals go_wp2
      all_goals go_roundw
      all_goals first | exact ⟨k + 1, by omega, by go_num, HI2⟩ | (simp [intOf]; omega)
    · obtain rfl : k = L.length := by omega
      go_wp2
      gi_wp2
      go_ret
      obtain ⟨D, hD⟩ := HI.out.dev
      rw [← H0.out.2.2.2, List.take_length] at hD
      exact ⟨rfl, HI.out.but, D, by rw [← H0.out.2.2.2]; exact hD⟩

end Go.Proofs.YtphedokdckoccaaGreatDoor
