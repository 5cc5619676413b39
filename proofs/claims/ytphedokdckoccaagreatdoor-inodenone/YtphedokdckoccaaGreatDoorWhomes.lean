/-
  writeHomes of package wal, where the log holds no block.
-/
import Derived.Test.YtphedokdckoccaaGreatDoorWrof
namespace Go.Proofs.YtphedokdckoccaaGreatDoor
open Go.RowKit Go.Maps Go.Sort Go.Shelf

set_option maxRecDepth 8000 in
set_option maxHeartbeats 2000000 in
theorem writeHomes_none (v : Nat) (commits turn next f nf : Nat) (count : Int) (d : DS) (w : World) (h : IsVol w v (dp d.a) commits turn next (some f) count) (hown : w.ownsMap Tryz.prog 3 slElem f nf (.map [])) :
    Calls Tryz.prog 179 #[dp v] w fun e w' => e = .returned (.int .i64 0) ∧ Below w.heap.size w w' := by
  refine (callsIn_wide (n := 6)).1 ?_
  have hbl := hown.lt
  have k4 := cellOf h 4
  simp [volCells] at k4
  have hseq : SeqGives Fence.wide 2 Tryz.prog 213 #[.pointer (some ⟨w.heap.size, 0, none⟩)] encZ (fun ss => ss.Perm (intKeys (.map [] : DataW Value))) (Maps.size (.map [] : DataW Value)) (w.alloc (.cells #[.map (some f)] 95)) :=
    AnyZI.keys_gives (ρ := Tryz.keysB_ren) { Tryz.keysB with } Fence.wide _ trivial rfl (by omega) w.heap.size f nf (.map []) _ (by simp) (by simp) (by
      obtain ⟨es, clock, hb, Ft, hs, hD⟩ := hown
      exact ⟨es, clock, (Below.heap_alloc _ _ f hbl).trans hb, Ft, hs, hD⟩)
  have cK : ∀ mb W, CallsIn Fence.wide 5 Tryz.prog 195 #[.map mb] W fun e w' => e = .returned (.func (.func 213) #[] #[.pointer (some ⟨W.heap.size, 0, none⟩)]) ∧ w' = W.alloc (.cells #[.map mb] 95) := fun mb W => AnyZI.keys_in Tryz.keysB Fence.wide 5 trivial rfl mb W
  have cS := AnyZI.sorted_in Tryz.sortedA Fence.wide 5 trivial trivial trivial trivial rfl (by omega) (sortsA _) (enters_of Tryz.func155 (by kernel_rfl) rfl) 213 #[.pointer (some ⟨w.heap.size, 0, none⟩)] trivial (enters_of Tryz.func213 (by kernel_rfl) rfl) _ _ (by show 0 ≤ maxLen; omega) (by show 0 * 8 ≤ _; omega) _ hseq
  change CallsIn _ _ Tryz.prog 116 _ _ _ at cS
  have cS' : CallsIn Fence.wide 5 Tryz.prog 116 #[.func (.func 213) #[] #[.pointer (some ⟨w.heap.size, 0, none⟩)]] (w.alloc (.cells #[.map (some f)] 95)) fun e w' => e = .returned (.slice none 0 0) ∧ Below w.heap.size w w' := by
    refine cS.mono ?_
    rintro e w' ⟨u, ss, rfl, hp, hrow, hnil, hb⟩
    have hss : ss = [] := by
      have h0 : intKeys (.map [] : DataW Value) = [] := by rfl
      rw [h0] at hp
      exact List.Perm.eq_nil hp
    refine ⟨by rw [hnil.2 hss], ((Below.refl _ w).alloc (Nat.le_refl _) _).trans (hb.mono (by simp))⟩
  have hfK : Fence.wide.fn 195 := trivial
  have hfS : Fence.wide.fn 116 := trivial
  clear hown h hseq cS
  refine callsIn_of_wp Tryz.func179 rfl trivial ?_ rfl
  simp only [Tryz.ntmps179, List.size_toArray, List.length_cons, List.length_nil, Nat.reduceAdd, Nat.reduceSub, Array.replicate_succ, Array.replicate_zero, List.push_toArray, List.append_toArray, List.nil_append, List.cons_append]
  gi_wp2_with (first
    | (gi_at_call 195; refine (cK _ _).mono ?_; rintro e w' ⟨rfl, rfl⟩)
    | (gi_at_call 116; refine cS'.mono ?_; rintro e w2 ⟨rfl, hB2⟩; clear cS'))
  gi_loopw [13] (fun ii wr => ii = .int .i64 0 ∧ wr = w2) (fun _ _ => 0)
  case atStart => exact ⟨rfl, rfl⟩
  case round =>
    obtain ⟨rfl, rfl⟩ := hrel
    gi_wp2
    go_ret
    exact ⟨rfl, hB2⟩

end Go.Proofs.YtphedokdckoccaaGreatDoor
