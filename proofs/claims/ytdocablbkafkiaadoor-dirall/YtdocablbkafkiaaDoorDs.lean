/-
  Each entry is visited, block by block: walk.
-/
import Derived.Test.YtdocablbkafkiaaDoorDl
namespace Go.Proofs.YtdocablbkafkiaaDoor.Cd
open Go.RowKit

theorem take_flat {D : List (List En)} {i : Nat} {L : List En} (h : D[i]? = some L) : (D.take (i + 1)).flatten = (D.take i).flatten ++ L := by
  rw [List.take_add_one, h]; simp
theorem flat_split {D : List (List En)} {i j : Nat} {L : List En} {x : En} (h : D[i]? = some L) (hx : L[j]? = some x) : ∃ m, D.flatten = ((D.take i).flatten ++ L.take j) ++ x :: m := by
  refine ⟨L.drop (j + 1) ++ (D.drop (i + 1)).flatten, ?_⟩
  have hi := (List.getElem?_eq_some_iff.1 h)
  have hj := (List.getElem?_eq_some_iff.1 hx)
  have e1 : D = D.take i ++ L :: D.drop (i + 1) := by
    conv => lhs; rw [← List.take_append_drop i D, List.drop_eq_getElem_cons hi.1]
    rw [hi.2]
  have e2 : L = L.take j ++ x :: L.drop (j + 1) := by
    conv => lhs; rw [← List.take_append_drop j L, List.drop_eq_getElem_cons hj.1]
    rw [hj.2]
  conv => lhs; rw [e1]
  rw [List.flatten_append, List.flatten_cons]
  conv => lhs; rw [e2]
  simp

set_option maxRecDepth 8000 in
set_option maxHeartbeats 2000000 in
theorem walk_any (base a count : Nat) (bv : Value) (vs : List Value) (D : List (List En)) (f : Nat) (pv : Value) (I : List En → World → Prop) (w : World)
    (hdir : ∀ l W, I l W → DirAt W base a count bv vs D) (hbel : ∀ l W W', I l W → Below W.heap.size W W' → I l W')
    (hstep : ∀ l x W, I l W → (∃ m, D.flatten = l ++ x :: m) → Calls Tryd.prog f #[pv, .agg #[.string (bas x.name), .int .i64 (x.num : Nat)]] W fun e W' => e = .returned (.tuple #[]) ∧ I (l ++ [x]) W')
    (hent : ∀ args w, (callFunc f args).run Tryd.prog w = .ok (.enter f args) w) (hn : D.length < 100000) (hroom : ∀ (j : Nat) b, D[j]? = some b → b.length ≤ 7) (h : I [] w) :
    Calls Tryd.prog 32 #[.pointer (some ⟨a, 0, none⟩), .func (.func f) #[pv] #[]] w fun e w' => e = .returned (.tuple #[]) ∧ I D.flatten w' := by
  obtain ⟨p, c, rfl, hlc, hcm, hpB⟩ := (hdir _ _ h).bform
  have c1 := (hdir _ _ h).c1
  obtain ⟨n, hnD⟩ : ∃ n, D.length = n := ⟨_, rfl⟩
  have HS : Hid ((∀ l W, I l W → DirAt W base a count (.slice p D.length c) vs D) ∧ (∀ l W W', I l W → Below W.heap.size W W' → I l W') ∧ (∀ (j : Nat) b, D[j]? = some b → b.length ≤ 7) ∧ D.length = n ∧ I [] w ∧
      (∀ l x W, I l W → (∃ m, D.flatten = l ++ x :: m) → Calls Tryd.prog f #[pv, .agg #[.string (bas x.name), .int .i64 (x.num : Nat)]] W fun e W' => e = .returned (.tuple #[]) ∧ I (l ++ [x]) W')) := ⟨hdir, hbel, hroom, hnD, h, hstep⟩
  rw [hnD] at c1 hn hlc
  clear hdir hbel hstep hroom h hpB hcm hnD
  go_enter Tryd.func32, Tryd.ntmps32
  go_wp2_with fail
  go_loopw [15] (fun ii wr => ∃ i : Nat, ii = .int .i64 i ∧ i ≤ n ∧ Hid (I (D.take i).flatten wr)) (fun ii _ => n - (intOf ii).toNat)
  case atStart => exact ⟨0, rfl, Nat.zero_le _, HS.out.2.2.2.2.1⟩
  case round =>
    obtain ⟨i, rfl, hin, HI⟩ := hrel
    by_cases hlt : i < n
    · have hltI : (i : Int) < n := by omega
      obtain ⟨L, hL⟩ : ∃ L, D[i]? = some L := ⟨_, List.getElem?_eq_getElem (by rw [HS.out.2.2.2.1]; exact hlt)⟩
      obtain ⟨B, c', cur, v, hbv, hB, hcur, hv, hblk⟩ := (HS.out.1 _ _ HI.out).at_ hL
      injection hbv with q1 q2 q3
      subst q1
      obtain ⟨pv', cv, rfl, hlcv, hcmv, he⟩ := hblk.form
      have dB : wr.cell? ⟨B, i, none⟩ = some (.slice pv' L.length cv) := by rw [cellOf hB i]; exact hcur
      have hl7 := HS.out.2.2.1 i L hL
      obtain ⟨m, hm⟩ : ∃ m, L.length = m := ⟨_, rfl⟩
      have HL : Hid (D[i]? = some L ∧ L.length = m ∧ vs[i]? = some (.slice pv' L.length cv)) := ⟨hL, hm, hv⟩
      rw [hm] at dB hl7 hlcv
      have HI0 : Hid (I ((D.take i).flatten ++ L.take 0) wr) := by show I _ _; simpa using HI.out
      clear hL hB hcur hv hblk he hm q2 q3 hcmv
      go_wp2_with fail
      rename_i K0 _
      obtain ⟨w0, hw0⟩ : ∃ w0, w0 = wr := ⟨_, rfl⟩
      go_loopw [21] (fun jj wr => ∃ j : Nat, jj = .int .i64 j ∧ j ≤ m ∧ Hid (I ((D.take i).flatten ++ L.take j) wr)) (fun jj _ => m - (intOf jj).toNat)
      case atStart => exact ⟨0, rfl, Nat.zero_le _, HI0.out⟩
      case round =>
        obtain ⟨j, rfl, hjm, HJ⟩ := hrel
        by_cases hjl : j < m
        · have hjI : (j : Int) < m := by omega
          obtain ⟨x, hx⟩ : ∃ x, L[j]? = some x := ⟨_, List.getElem?_eq_getElem (by rw [HL.out.2.1]; exact hjl)⟩
          have hbk := (HS.out.1 _ _ HJ.out).rows.row i _ L HL.out.2.2 HL.out.1
          obtain ⟨p2, c2, e2, _, _, he2⟩ := hbk.form
          injection e2 with e2a e2b e2c
          subst e2a
          obtain ⟨g, o, rfl, hce⟩ := he2 (by rw [HL.out.2.1]; omega)
          have d0 : wr.cell? ⟨g, o + j * 2, none⟩ = some (.string (bas x.name)) := hce j 0 x hx (by omega)
          have d1 : wr.cell? ⟨g, o + j * 2 + 1, none⟩ = some (.int .i64 (x.num : Nat)) := hce j 1 x hx (by omega)
          have cF := HS.out.2.2.2.2.2 ((D.take i).flatten ++ L.take j) x (wr.alloc (.cells #[.string (bas x.name), .int .i64 (x.num : Nat)] 55)) (HS.out.2.1 _ _ _ HJ.out ((Below.refl _ wr).alloc (Nat.le_refl _) _)) (flat_split HL.out.1 hx)
          have HX : Hid (L.take (j + 1) = L.take j ++ [x]) := by show _ = _; rw [List.take_add_one, hx]; rfl
          clear hx hbk e2b e2c he2 hce
          go_wp2_with fail
          refine cF.mono ?_
          rintro e w3 ⟨rfl, h3⟩
          have H3 : Hid (I ((D.take i).flatten ++ L.take (j + 1)) w3) := by show I _ _; rw [HX.out, ← List.append_assoc]; exact h3
          clear h3 cF
          go_wp2
          go_roundw
          case rel => exact ⟨j + 1, by go_num, by omega, H3.out⟩
          case measure => simp [intOf]; omega
        · obtain rfl : j = m := by omega
          have hge : ¬ (j : Int) < j := by omega
          have H3 : Hid (I (D.take (i + 1)).flatten wr) := by
            show I _ _
            rw [take_flat HL.out.1]
            have := HJ.out
            rwa [show L.take j = L from List.take_of_length_le (by rw [HL.out.2.1]; exact Nat.le_refl _)] at this
          go_wp2
          go_roundw
          case rel => exact ⟨i + 1, by go_num, by omega, H3.out⟩
          case measure => simp [intOf]; omega
    · obtain rfl : i = n := by omega
      have hge : ¬ (i : Int) < i := by omega
      have H3 : Hid (I D.flatten wr) := by
        show I _ _
        have := HI.out
        rwa [List.take_of_length_le (by rw [HS.out.2.2.2.1]; exact Nat.le_refl _)] at this
      go_wp2
      refine bodyPost_end (results_none rfl _ _ _) rfl ?_
      exact ⟨rfl, H3.out⟩

end Go.Proofs.YtdocablbkafkiaaDoor.Cd
