/-
  A block's names are put one by one: readBlock.
-/
import Derived.Test.YtdocablbkafkiaaDoorEb
namespace Go.Proofs.YtdocablbkafkiaaDoor.Cd
open Go.RowKit

/-- One entry is read. -/
def rent (s : St) : En × St := (⟨(strOf (rbytes s).1).data.toList, (rnum 4611686018427387904 (rbytes s).2).1⟩, (rnum 4611686018427387904 (rbytes s).2).2)
/-- So many entries; what is left. -/
def rents : Nat → St → List En × St
  | 0, s => ([], s)
  | n + 1, s => ((rents n s).1 ++ [(rent (rents n s).2).1], (rent (rents n s).2).2)
theorem rents_succ (n : Nat) (s : St) : rents (n + 1) s = ((rents n s).1 ++ [(rent (rents n s).2).1], (rent (rents n s).2).2) := rfl
/-- What is there behind some puts. -/
def Mem (P : En → Prop) : List En → En → Prop
  | [], q => P q
  | x :: l, q => Mem (fun q => (P q ∧ q.name ≠ x.name) ∨ q = x) l q
theorem Mem_snoc : ∀ (l : List En) (P : En → Prop) (x q : En), Mem P (l ++ [x]) q ↔ (Mem P l q ∧ q.name ≠ x.name) ∨ q = x
  | [], _, _, _ => Iff.rfl
  | _ :: l, _, x, q => Mem_snoc l _ x q
theorem Mem_congr : ∀ (l : List En) {P Q : En → Prop}, (∀ q, P q ↔ Q q) → ∀ q, Mem P l q ↔ Mem Q l q
  | [], P, Q, h, q => h q
  | x :: l, P, Q, h, q => Mem_congr l (fun q => by rw [h q]) q
theorem rbytes_small {s : St} (h : Small s) : Small (rbytes s).2 := Nat.le_trans (rbytes_len s) h
theorem rnum_small {s : St} {m : Nat} (h : Small s) : Small (rnum m s).2 := Nat.le_trans (rnum_len m s) h
theorem rents_small {s : St} (h : Small s) : ∀ n, Small (rents n s).2
  | 0 => h
  | n + 1 => rnum_small (rbytes_small (rents_small h n))
theorem rents_none : ∀ n, (rents n none).2 = none
  | 0 => rfl
  | n + 1 => by rw [rents_succ, rents_none n]; rfl
theorem rent_none : (rent none).1.name = [] := rfl
theorem strOf_data (bs : List (BitVec 8)) : (strOf bs).data.toList.length = bs.length := by rw [← Lib.size_eq, strOf_size]

/-- What readBlock leaves: all entries were put, or it tells an error. -/
structure RB (base a : Nat) (D : List (List En)) (c : Nat) (s : St) (w : World) (E : Int) (D' : List (List En)) (w' : World) : Prop where
  ok : DirOk w' base a D'
  fr : Fr base w w'
  good : E = 0 → (rents c s).2 ≠ none ∧ ∀ q, q ∈ D'.flatten ↔ Mem (fun q => q ∈ D.flatten) (rents c s).1 q
  yes : (∀ x ∈ (rents c s).1, fineN x.name = 0 ∧ 1 ≤ x.num ∧ x.num ≤ 2147483647) → (rents c s).2 ≠ none → total D + c ≤ 2048 → E = 0 ∧ total D' ≤ total D + c

theorem rents_take (s : St) : ∀ (n j : Nat), j ≤ n → (rents n s).1.take j = (rents j s).1 ∧ (rents j s).1.length = j
  | 0, j, h => by obtain rfl : j = 0 := by omega
                  exact ⟨rfl, rfl⟩
  | n + 1, j, h => by
    have hl := (rents_take s n n (Nat.le_refl _)).2
    rcases Nat.eq_or_lt_of_le h with rfl | h
    · constructor
      · exact List.take_of_length_le (by rw [rents_succ, List.length_append, hl]; exact Nat.le_refl _)
      · rw [rents_succ, List.length_append, hl]; rfl
    · have := rents_take s n j (by omega)
      refine ⟨?_, this.2⟩
      rw [rents_succ, List.take_append_of_le_length (by omega)]
      exact this.1
theorem rents_mem {s : St} {n j : Nat} (h : j < n) : (rent (rents j s).2).1 ∈ (rents n s).1 := by
  have := (rents_take s n (j + 1) (by omega)).1
  have hm : (rent (rents j s).2).1 ∈ (rents (j + 1) s).1 := by rw [rents_succ]; simp
  rw [← this] at hm
  exact List.mem_of_mem_take hm
theorem rents_good {s : St} {n : Nat} : ∀ j, j ≤ n → (rents n s).2 ≠ none → (rents j s).2 ≠ none := fun j => by
  induction n with
  | zero => intro h; obtain rfl : j = 0 := by omega
            exact id
  | succ n ih =>
    intro h hn
    rcases Nat.eq_or_lt_of_le h with rfl | h
    · exact hn
    · refine ih (by omega) (fun e => hn ?_)
      show (rent (rents n s).2).2 = none
      rw [e]; rfl

theorem not_DT {w : World} {k t : Nat} {cs : Array Value} {f : Nat × Nat} (h : w.heap[k]? = some (.cells cs t f)) (h1 : t ≠ 49) (h2 : t ≠ 57) (h3 : t ≠ 55) : ¬ DT w.heap[k]? := by
  rintro ⟨cs', t', f', e, ht⟩
  rw [h] at e
  cases e
  rcases ht with ht | ht | ht
  · exact h1 ht
  · exact h2 ht
  · exact h3 ht
theorem Rd.notDT {w : World} {r : Nat} {s : St} (h : Rd 107 w r s) : ¬ DT w.heap[r]? := by
  obtain ⟨p, c, _, h1, _⟩ := h.at_
  exact not_DT h1 (by decide) (by decide) (by decide)
theorem DirOk.reader {w w' : World} {base a r : Nat} {D : List (List En)} {s : St} (h : DirOk w base a D) (hr : Rd 107 w r s) (ho : Only (· = r) w w') : DirOk w' base a D := by
  obtain ⟨⟨bv, vs, h1⟩, h2⟩ := h
  exact ⟨⟨bv, vs, h1.kept ho (fun k _ _ hd e => hr.notDT (by rw [← e]; exact hd))⟩, h2⟩
theorem Fr.reader {w wr w' : World} {base r : Nat} (h : Fr base w wr) (ho : Only (· = r) wr w') (hr : w.heap.size ≤ r) : Fr base w w' := Only.trans h ho (fun i hi => .inr (by omega))
theorem Rd.fr {w w' : World} {base r : Nat} {s : St} (h : Rd 107 w r s) (hf : Fr base w w') : Rd 107 w' r s :=
  h.tagged hf (fun hs => h.notDT hs.2) (fun b cs f hb hs => not_DT hb (by decide) (by decide) (by decide) hs.2)

set_option maxRecDepth 8000 in
set_option maxHeartbeats 4000000 in
theorem readBlock_any (base a : Nat) (D : List (List En)) (p : Option Addr) (bs : List (BitVec 8)) (cp : Nat) (w : World) (ht : Tab w) (hgb : 1 < base) (h : DirOk w base a D) (hb : Bytes w p bs) (hl : bs.length ≤ 1000000) (n c : Nat) (s1 s2 : St) (hs1 : rnum 4611686018427387904 (some bs) = (n, s1)) (hs2 : rnum 4611686018427387904 s1 = (c, s2)) :
    Calls Tryd.prog 28 #[.slice p bs.length cp, .func (.func 10) #[.pointer (some ⟨a, 0, none⟩)] #[]] w fun e w' => ∃ E D', e = .returned (.int .i64 E) ∧ RB base a D c s2 w E D' w' := by
  have cR := newReader_any p bs cp w (by omega) hb
  have hbw := h.lt
  have hsm : Small (some bs) := by unfold Small; show bs.length ≤ _; omega
  have hsm1 : Small s1 := by have := rnum_small (m := 4611686018427387904) hsm; rw [hs1] at this; exact this
  have hsm2 : Small s2 := by have := rnum_small (m := 4611686018427387904) hsm1; rw [hs2] at this; exact this
  have hc62 : c ≤ 4611686018427387904 := by have := rnum_le 4611686018427387904 s1; rw [hs2] at this; exact this
  have HO : Hid (DirOk w base a D ∧ Tab w ∧ 1 < base) := ⟨h, ht, hgb⟩
  have hent : ∀ args w, (callFunc 10 args).run Tryd.prog w = .ok (.enter 10 args) w := fun args w => by simp [callFunc, Tryd.func10, go_sem]; rfl
  clear hb h ht hl hgb
  go_enter Tryd.func28, Tryd.ntmps28
  go_wp2_with fail
  refine cR.mono ?_
  rintro e w1 ⟨r, rfl, hr1, hR1, hb1⟩
  clear cR
  have c1 := rnum_any r (some bs) w1 hR1 hsm
  rw [hs1] at c1
  go_wp2_with fail
  refine c1.mono ?_
  rintro e w2 ⟨rfl, hR2, hO2⟩
  clear c1
  have c2 := rnum_any r s1 w2 hR2 hsm1
  rw [hs2] at c2
  go_wp2_with fail
  refine c2.mono ?_
  rintro e w3 ⟨rfl, hR3, hO3⟩
  clear c2
  have hb3 : Below w.heap.size w w3 := hb1.trans ((hO2.next hO3).below hb1.size (fun k hk => by omega))
  have H3 : Hid (Rd 107 w3 r s2 ∧ Below w.heap.size w w3 ∧ w.heap.size ≤ r) := ⟨hR3, hb3, hr1⟩
  clear hR1 hR2 hR3 hO2 hO3 hb1 hb3
  have hs1' : Hid True := trivial
  clear hs1 hs2 hsm hsm1
  go_wp2_with fail
  go_loopw [14] (fun tt wr => ∃ t : Nat, tt = .int .i64 t ∧ t ≤ c ∧ Hid (Rd 107 wr r (rents t s2).2 ∧ Fr base w wr ∧ ∃ D', DirOk wr base a D' ∧ (∀ q, q ∈ D'.flatten ↔ Mem (fun q => q ∈ D.flatten) (rents t s2).1 q) ∧ total D' ≤ total D + t)) (fun tt _ => c - (intOf tt).toNat)
  case atStart => exact ⟨0, rfl, Nat.zero_le _, H3.out.1, Fr.below H3.out.2.1, D, HO.out.1.below H3.out.2.1, fun q => Iff.rfl, Nat.le_refl _⟩
  case round =>
    obtain ⟨t, rfl, htc, HT⟩ := hrel
    by_cases hlt : t < c
    · have hltI : (t : Int) < c := by omega
      have hst := rents_small hsm2 t
      have cT := text_read r _ wr HT.out.1 hst
      obtain ⟨bn, hbn⟩ : ∃ y, rbytes (rents t s2).2 = y := ⟨_, rfl⟩
      have hst2 := rbytes_small hst
      rw [hbn] at cT hst2
      obtain ⟨kk, hkk⟩ : ∃ y, rnum 4611686018427387904 bn.2 = y := ⟨_, rfl⟩
      have hx : rent (rents t s2).2 = (⟨(strOf bn.1).data.toList, kk.1⟩, kk.2) := by unfold rent; rw [hbn, hkk]
      have hbl : bn.1.length ≤ 65536 := by rw [← hbn]; exact rbytes_le _
      go_wp2_with fail
      refine cT.mono ?_
      rintro e w4 ⟨rfl, hR4, hO4⟩
      have cK := rnum_any r _ w4 hR4 hst2
      rw [hkk] at cK
      clear cT
      go_wp2_with fail
      refine cK.mono ?_
      rintro e w5 ⟨rfl, hR5, hO5⟩
      clear cK
      obtain ⟨D', hD', hm', ht'⟩ := HT.out.2.2
      have hrw := H3.out.2.2
      have hD5 : DirOk w5 base a D' := (hD'.reader HT.out.1 hO4).reader hR4 hO5
      have hf5 : Fr base w w5 := (HT.out.2.1.reader hO4 hrw).reader hO5 hrw
      have hbw' : base ≤ w.heap.size := by omega
      have cP := put_any base a D' (strOf bn.1) (kk.1 : Nat) w5 (below_tab (hf5.toBelow hbw') HO.out.2.2 HO.out.2.1) HO.out.2.2 hD5 (by rw [strOf_size]; omega)
      have hxm : (⟨(strOf bn.1).data.toList, kk.1⟩ : En) ∈ (rents c s2).1 := by have := rents_mem (s := s2) hlt; rw [hx] at this; exact this
      have cP' : Calls Tryd.prog 10 #[.pointer (some ⟨a, 0, none⟩), .string (strOf bn.1), .int .i64 (kk.1 : Nat)] w5 fun e w6 => (∃ E, e = .returned (.int .i64 E) ∧ E ≠ 0 ∧ Hid (∃ D', RB base a D c s2 w E D' w6)) ∨ (e = .returned (.int .i64 0) ∧ Hid (Rd 107 w6 r (rents (t + 1) s2).2 ∧ Fr base w w6 ∧ ∃ D', DirOk w6 base a D' ∧ (∀ q, q ∈ D'.flatten ↔ Mem (fun q => q ∈ D.flatten) (rents (t + 1) s2).1 q) ∧ total D' ≤ total D + (t + 1))) := by
        refine cP.mono ?_
        rintro e w6 ⟨hf6, ⟨h1, rfl, h3⟩ | ⟨h1, h2, rfl, h3⟩ | ⟨h1, h2, h4, h5, rfl, h3⟩ | ⟨h1, h2, h4, rfl, D6, q1, q2, q3, q4⟩⟩
        · refine .inl ⟨_, rfl, h1, D', h3, hf5.trans hf6, fun e => absurd e h1, fun hy _ _ => absurd (hy _ hxm).1 h1⟩
        · refine .inl ⟨22, rfl, by decide, D', h3, hf5.trans hf6, (fun e => by cases e), (fun hy _ _ => absurd (hy _ hxm).2 (fun hh => h2 (by have h8 : 1 ≤ kk.1 := hh.1; have h9 : kk.1 ≤ 2147483647 := hh.2; omega)))⟩
        · refine .inl ⟨28, rfl, by decide, D', h3, hf5.trans hf6, (fun e => by cases e), (fun _ _ hy => by omega)⟩
        · refine .inr ⟨rfl, ?_, hf5.trans hf6, D6, q1, fun q => ?_, ?_⟩
          · show Rd 107 w6 r (rent (rents t s2).2).2
            rw [hx]; exact hR5.fr hf6
          · show _ ↔ Mem _ ((rents t s2).1 ++ [(rent (rents t s2).2).1]) q
            rw [Mem_snoc, hx, q2, hm', Int.toNat_natCast]
          · by_cases hA : Absent D' (strOf bn.1).data.toList
            · rw [q3 hA]; omega
            · rw [q4 hA]; omega
      have HT' : Hid True := trivial
      clear cP hD5 hf5 hD' hm' ht' hO4 hO5 hR4 hR5 hxm hst hst2 hbn hkk hx
      go_wp2_with fail
      refine cP'.mono ?_
      clear cP'
      rintro e w6 (⟨E, rfl, hE, H6⟩ | ⟨rfl, H6⟩)
      · go_wp2
        go_ret
        obtain ⟨D6, h6⟩ := H6.out
        exact ⟨E, D6, rfl, h6⟩
      · go_wp2
        go_roundw
        case rel => exact ⟨t + 1, by go_num, by omega, H6.out⟩
        case measure => simp [intOf]; omega
    · obtain rfl : t = c := by omega
      have hge : ¬ (t : Int) < t := by omega
      obtain ⟨D', hD', hm', ht'⟩ := HT.out.2.2
      cases hfin : (rents t s2).2 with
      | none =>
        have cE := err_bad r wr (by have := HT.out.1; rw [hfin] at this; exact this)
        have HR : Hid (RB base a D t s2 w 74 D' wr) := ⟨hD', HT.out.2.1, (fun e => by cases e), fun _ hn => absurd hfin hn⟩
        clear hD' hm' ht' hfin
        go_wp2_with (go_at_call 53; refine Calls_on cE ?_; clear cE)
        go_ret
        exact ⟨74, D', rfl, HR.out⟩
      | some rest =>
        have cE := err_good r rest wr (by have := HT.out.1; rw [hfin] at this; exact this)
        have HR : Hid (RB base a D t s2 w 0 D' wr) := ⟨hD', HT.out.2.1, fun _ => ⟨by rw [hfin]; simp, hm'⟩, fun _ _ _ => ⟨rfl, ht'⟩⟩
        clear hD' hm' ht' hfin
        go_wp2_with (go_at_call 53; refine Calls_on cE ?_; clear cE)
        go_ret
        exact ⟨0, D', rfl, HR.out⟩

end Go.Proofs.YtdocablbkafkiaaDoor.Cd
