/-
  begun of the law's package: one name is kept.
-/
import Derived.Test.YtdocablbkafkiaaDoorFd
namespace Go.Proofs.YtdocablbkafkiaaDoor.Cd
open Go.RowKit Go.Maps

attribute [local go_sem] Oper.semAt_some

theorem dirB_inj {D E : List (List En)} (h : Good D) (k : Good E) (e : dirB D = dirB E) : D = E := by
  have hl : D.length = E.length := by
    have h1 := dirB_len h
    have h2 := dirB_len k
    rw [e] at h1
    omega
  have a1 := own_all h D.length (Nat.le_refl _)
  have a2 := own_all k E.length (Nat.le_refl _)
  rw [List.take_length] at a1 a2
  rw [e, hl, a2] at a1
  exact h.same k (fun q => by rw [← a1])
theorem RowB.bytes {w : World} {q : Nat} {bs : List (BitVec 8)} (h : RowB w q bs) : Bytes w (some ⟨q, 0, none⟩) bs := by
  intro _
  refine ⟨q, 0, rfl, fun j x hj => ?_⟩
  rw [Nat.zero_add, cellOf h]
  simp [hj]
/-- What Bytes gave is loaded: the same directory. -/
theorem load_own (base a : Nat) (D : List (List En)) (w : World) (ht : Tab w) (h : DirOk w base a D) :
    Calls Tryd.prog 13 #[.pointer (some ⟨a, 0, none⟩)] w fun e w1 => e = .returned (.slice (some ⟨w.heap.size, 0, none⟩) (D.length * 512) (D.length * 512)) ∧ Below w.heap.size w w1 ∧
      Calls Tryd.prog 14 #[.slice (some ⟨w.heap.size, 0, none⟩) (D.length * 512) (D.length * 512)] w1 fun e w2 => e = .returned (.tuple #[.pointer (some ⟨w1.heap.size + 2, 0, none⟩), .int .i64 0]) ∧ Below w1.heap.size w1 w2 ∧ DirOk w2 w1.heap.size (w1.heap.size + 2) D := by
  refine (dbytes_any base a D w h).mono ?_
  rintro e w1 ⟨rfl, hrow, hb⟩
  refine ⟨rfl, hb, ?_⟩
  have hl := dirB_len h.2
  have hsm := h.2.small
  have := load_all w.heap.size 0 (D.length * 512) (dirB D) w1 (below_tab hb ht.lt ht) hrow.bytes (by omega) (by omega)
  rw [hl] at this
  refine this.mono ?_
  rintro e w2 ⟨hb2, ⟨hn, _⟩ | ⟨D2, rfl, hd2, he⟩⟩
  · exact absurd ⟨D, h.2, rfl⟩ hn
  · refine ⟨rfl, hb2, ?_⟩
    rw [dirB_inj h.2 hd2.2 he]
    exact hd2

theorem one_of {D : List (List En)} {x : En} (h1 : total D = 1) (h2 : ∀ q, q ∈ D.flatten ↔ (False ∨ q = x)) : D.flatten = [x] := by
  unfold total at h1
  match hD : D.flatten, h1 with
  | [y], _ =>
    have := (h2 y).1 (by rw [hD]; simp)
    simp at this
    rw [this]

set_option maxRecDepth 8000 in
set_option maxHeartbeats 2000000 in
theorem begun10_true (w : World) (ht : Tab w) : Calls Tryd.prog 6 #[] w fun e w' => e = .returned (.bool true) ∧ Below w.heap.size w w' := by
  have cN := new_dir w
  obtain ⟨w1, hw1⟩ : ∃ w1, w1 = w.alloc (.cells #[.int .i64 0, .slice none 0 0] 49) := ⟨_, rfl⟩
  rw [← hw1] at cN
  have hb1 : Below w.heap.size w w1 := by rw [hw1]; exact (Below.refl _ w).alloc (Nat.le_refl _) _
  have hd1 : DirOk w1 w.heap.size w.heap.size [] := dir_new (Nat.le_refl _) (by rw [hw1]; exact heap_alloc_new w _)
  have cP := put_any w.heap.size w.heap.size [] ⟨#[97]⟩ 5 w1 (below_tab hb1 ht.lt ht) ht.lt hd1 (by decide)
  have HT : Hid (Tab w ∧ Below w.heap.size w w1) := ⟨ht, hb1⟩
  clear hw1 hd1 ht hb1
  go_enter Tryd.func6, Tryd.ntmps6
  go_wp2_with fail
  refine cN.mono ?_
  rintro e w1' ⟨rfl, rfl⟩
  clear cN
  go_wp2_with fail
  refine cP.mono ?_
  clear cP
  rintro e w2 ⟨hf, ⟨h1, _⟩ | ⟨_, h2, _⟩ | ⟨_, _, _, h4, _⟩ | ⟨_, _, h3, rfl, D, hD, hm, hA, hB⟩⟩
  · exact absurd (by decide) h1
  · exact absurd (by decide) h2
  · simp [total] at h4
  have hab : Absent [] ([97] : List UInt8) := fun j b h => by simp at h
  have hfl : D.flatten = [⟨[97], 5⟩] := one_of (hA hab) (fun q => by rw [hm q]; simp)
  have hb2 : Below w.heap.size w w2 := HT.out.2.trans (hf.toBelow HT.out.2.size)
  have cB := load_own w.heap.size w.heap.size D w2 (below_tab hb2 HT.out.1.lt HT.out.1) hD
  have H2 : Hid (Below w.heap.size w w2) := hb2
  clear hf h3 hm hA hB hb2 hD
  go_wp2_with fail
  refine cB.mono ?_
  rintro e w3 ⟨rfl, hb3, cL⟩
  have H3 : Hid (Below w.heap.size w w3) := H2.out.trans (hb3.mono H2.out.size)
  clear cB hb3
  go_wp2_with fail
  refine cL.mono ?_
  rintro e w4 ⟨rfl, hb4, hD4⟩
  clear cL
  have hb4' : Below w.heap.size w w4 := H3.out.trans (hb4.mono H3.out.size)
  have hlt3 : 1 < w3.heap.size := Nat.lt_of_lt_of_le HT.out.1.lt H3.out.size
  have cG := get_any w3.heap.size (w3.heap.size + 2) D ⟨#[97]⟩ w4 (below_tab hb4' HT.out.1.lt HT.out.1) hlt3 hD4 (by decide)
  have H4 : Hid (Below w.heap.size w w4 ∧ DirOk w4 w3.heap.size (w3.heap.size + 2) D) := ⟨hb4', hD4⟩
  clear hb4 hb4' hD4
  have cG' : Calls Tryd.prog 12 #[.pointer (some ⟨w3.heap.size + 2, 0, none⟩), .string ⟨#[97]⟩] w4 fun e w' => e = .returned (.tuple #[.int .i64 5, .bool true]) ∧ Below w4.heap.size w4 w' := by
    refine cG.mono ?_
    rintro e w5 ⟨hb5, ⟨x, hx, _, rfl⟩ | ⟨hA, _⟩⟩
    · rw [hfl] at hx
      simp at hx
      subst hx
      exact ⟨rfl, hb5⟩
    · exfalso
      have hx : (⟨[97], 5⟩ : En) ∈ D.flatten := by rw [hfl]; simp
      obtain ⟨b, hb, hxb⟩ := List.mem_flatten.1 hx
      obtain ⟨j, hj⟩ := List.getElem?_of_mem hb
      exact hA j b hj _ hxb rfl
  clear cG
  go_wp2_with fail
  refine cG'.mono ?_
  rintro e w5 ⟨rfl, hb5⟩
  have H5 : Hid (Below w.heap.size w w5) := H4.out.1.trans (hb5.mono H4.out.1.size)
  have cI := list_one w3.heap.size (w3.heap.size + 2) D ⟨[97], 5⟩ hfl w5 (H4.out.2.below hb5)
  clear cG' hb5
  go_wp2_with fail
  refine cI.mono ?_
  rintro e w6 ⟨⟨q, c, rfl, hc⟩, hb6⟩
  have H6 : Hid (Below w.heap.size w w6) := H5.out.trans (hb6.mono H5.out.size)
  have hbas : bas [97] = ⟨#[97]⟩ := by decide
  rw [hbas] at hc
  have cF := fine_any ⟨#[46, 46]⟩ w6 (by decide)
  have hfn : fineN (ByteArray.data ⟨#[46, 46]⟩).toList = 22 := by decide
  rw [hfn] at cF
  clear cI hb6 hfl
  go_wp2_with (go_at_call 15; refine Calls_on cF ?_)
  go_ret
  exact ⟨rfl, H6.out⟩

end Go.Proofs.YtdocablbkafkiaaDoor.Cd
