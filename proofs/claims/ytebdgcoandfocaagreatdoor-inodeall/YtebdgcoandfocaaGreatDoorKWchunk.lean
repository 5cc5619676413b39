/-
  slices.Chunk of package slices at bytes: what the iterator hands over, round by round.
-/
import Derived.Test.YtebdgcoandfocaaGreatDoorKWpage
import Derived.RangeFuncNested
import Derived.RangeFuncBound
import Derived.RangeFuncCalls
import Derived.RangeFuncLeaves
import Derived.Shelf.Abstract
import Derived.Shelf.RegionOpen
import Derived.OwnWalkIn
import Derived.TacticsInMore
import Derived.LoopNIn
import Derived.LoopIn

namespace Go.Proofs.YtebdgcoandfocaaGreatDoor
open Go.RowKit Go.Maps Go.Sort Go.Shelf

attribute [local go_sem] Oper.semAt_some

/-- Piece k of a row of L bytes, cut into pieces of c. -/
def pieceLen (L c k : Nat) : Nat := min c (L - k * c)
def pieceV (g o L c k : Nat) : Value := .slice (some ⟨g, o + k * c, none⟩) (pieceLen L c k) (pieceLen L c k)
def pieces (L c : Nat) : Nat := (L + c - 1) / c

/-- What a round must leave alone: the two boxes of the iterator. -/
def KpC (w : World) (bs bn : Nat) : World → World → Prop := fun W W' => (W.heap[bs]? = w.heap[bs]? ∧ W.heap[bn]? = w.heap[bn]?) → (W'.heap[bs]? = w.heap[bs]? ∧ W'.heap[bn]? = w.heap[bn]?)
theorem KpC.t {w : World} {bs bn : Nat} {A B C : World} (h : KpC w bs bn A B) (h' : KpC w bs bn B C) : KpC w bs bn A C := fun x => h' (h x)

set_option maxRecDepth 8000 in
set_option maxHeartbeats 400000 in
theorem chunk_any (p : Option Addr) (l cp c : Nat) (w : World) (hc : 1 ≤ c) (hc' : c < 1000000) :
    Calls Tryz.prog 114 #[.slice p l cp, .int .i64 c] w fun e w' => e = .returned (.func (.func 133) #[] #[.pointer (some ⟨w.heap.size, 0, none⟩), .pointer (some ⟨w.heap.size + 1, 0, none⟩)]) ∧
      w' = (w.alloc (.cells #[.slice p l cp] 30)).alloc (.cells #[.int .i64 c] 3) := by
  have hmf := mkf
  have hcI : ¬ (c : Int) < 1 := by omega
  go_enter Tryz.func114, Tryz.ntmps114
  go_wp2
  go_ret
  exact ⟨rfl, rfl⟩

set_option maxRecDepth 8000 in
set_option maxHeartbeats 2000000 in
theorem chunk1_in (l bs bn g o L cp c N : Nat) (hL : L < 1099511627776) (hcp : L ≤ cp) (hc : 1 ≤ c) (hc' : c < 1000000) (hN : N = pieces L c) (J Jx : List Nat → World → Prop) (w0 : World)
    (hbs : w0.heap[bs]? = some (.cells #[.slice (some ⟨g, o, none⟩) L cp] 30 (0, 0))) (hbn : w0.heap[bn]? = some (.cells #[.int .i64 c] 3 (0, 0)))
    (n : Nat) (hn : 1 ≤ n)
    (hY : ∀ k W, k < N → J (List.range k) W → YieldAt Fence.wide (n - 1) Tryz.prog l #[pieceV g o L c k] W fun e W' =>
      (e = .returned (.bool true) ∧ J (List.range (k + 1)) W' ∧ KpC w0 bs bn W W') ∨ (e = .returned (.bool false) ∧ Jx (List.range (k + 1)) W'))
    (W : World) (hJ : ∀ s W W' , J s W → W.grownBy W' none → J s W') (hW1 : W.heap[bs]? = w0.heap[bs]?) (hW2 : W.heap[bn]? = w0.heap[bn]?) (h0 : J [] W) :
    CallsIn Fence.wide n Tryz.prog 133 #[.func (.yield l) #[] #[], .pointer (some ⟨bs, 0, none⟩), .pointer (some ⟨bn, 0, none⟩)] W fun e W' => (∃ v, e = .returned v) ∧
      ((∃ xs, xs = List.range N ∧ J xs W') ∨ (∃ pre, (∃ k, k ≤ N ∧ pre = List.range k) ∧ Jx pre W')) := by
  refine callsIn_of_wp Tryz.func133 rfl trivial ?_ rfl
  simp only [Tryz.ntmps133, List.size_toArray, List.length_cons, List.length_nil, Nat.reduceAdd, Nat.reduceSub, Array.replicate_succ, Array.replicate_zero, List.push_toArray, List.append_toArray, List.nil_append, List.cons_append]
  gi_wp2
  gi_loopw [4] (fun i wr => ∃ k : Nat, k ≤ N ∧ i = .int .i64 (k * c : Nat) ∧ Hid (J (List.range k) wr) ∧ Hid (wr.heap[bs]? = w0.heap[bs]? ∧ wr.heap[bn]? = w0.heap[bn]?))
    (fun i _ => L + c - (intOf i).toNat)
  case atStart => exact ⟨0, Nat.zero_le _, by simp, h0, hW1, hW2⟩
  case round =>
    obtain ⟨k, hk, rfl, HJ, HK⟩ := hrel
    have b1 : wr.cell? ⟨bs, 0, none⟩ = some (.slice (some ⟨g, o, none⟩) L cp) := cellOf (HK.out.1.trans hbs) 0
    have b2 : wr.cell? ⟨bn, 0, none⟩ = some (.int .i64 c) := cellOf (HK.out.2.trans hbn) 0
    obtain ⟨ik, hik⟩ : ∃ ik, ik = k * c := ⟨_, rfl⟩
    rw [← hik]
    by_cases hlt : k < N
    · have hik' : ik < L := by
        rw [hN, pieces] at hlt
        have h1 : (k + 1) * c ≤ (L + c - 1) / c * c := Nat.mul_le_mul_right _ hlt
        have h2 := Nat.div_mul_le_self (L + c - 1) c
        rw [Nat.add_mul] at h1
        omega
      have hltI : (ik : Int) < L := by omega
      obtain ⟨ek, hek⟩ : ∃ ek, ek = pieceLen L c k := ⟨_, rfl⟩
      have hek' : ek = min c (L - ik) := by rw [hek, hik]; rfl
      have HMIN : Hid (min (c : Int) ((L - ik : Nat) : Int) = (ek : Int)) := by show _ = _; rw [hek']; omega
      have hek1 : ek ≤ L - ik := by omega
      have hek2 : 0 < ek := by omega
      have hek3 : ¬ ek = 0 := by omega
      have HIK : Hid (ik = k * c) := hik
      have HEK : Hid (ek = pieceLen L c k) := hek
      have HY : Hid (∀ k W, k < N → J (List.range k) W → YieldAt Fence.wide (n - 1) Tryz.prog l #[pieceV g o L c k] W fun e W' =>
        (e = .returned (.bool true) ∧ J (List.range (k + 1)) W' ∧ KpC w0 bs bn W W') ∨ (e = .returned (.bool false) ∧ Jx (List.range (k + 1)) W')) := hY
      clear hik hek hek' hY
      gi_wp2
      gi_region
      rw [HMIN.out]
      obtain ⟨w1, hw1⟩ : ∃ w1, w1 = wr.drew := ⟨_, rfl⟩
      have hJ1 : J (List.range k) w1 := by rw [hw1]; exact hJ _ _ _ HJ.out ⟨rfl, rfl, rfl, Nat.le_refl _, fun _ _ _ => rfl⟩
      have HK1 : Hid (w1.heap[bs]? = w0.heap[bs]? ∧ w1.heap[bn]? = w0.heap[bn]?) := by rw [hw1]; exact HK.out
      rw [← hw1]
      clear hw1 b1 b2
      have b1 : w1.cell? ⟨bs, 0, none⟩ = some (.slice (some ⟨g, o, none⟩) L cp) := cellOf (HK1.out.1.trans hbs) 0
      obtain ⟨fn, tmps, assign, body, hy, hR⟩ := HY.out k w1 hlt hJ1
      unfold pieceV at hy
      rw [← HEK.out, ← HIK.out] at hy
      clear hJ1
      gi_wp2
      refine hR.mono ?_
      rintro e W3 (⟨rfl, hJ3, hk3⟩ | ⟨rfl, hJx3⟩)
      · have HK3 : Hid (W3.heap[bs]? = w0.heap[bs]? ∧ W3.heap[bn]? = w0.heap[bn]?) := hk3 HK1.out
        have HJ3 : Hid (J (List.range (k + 1)) W3) := hJ3
        have b3 : W3.cell? ⟨bn, 0, none⟩ = some (.int .i64 c) := cellOf (HK3.out.2.trans hbn) 0
        clear hJ3 hk3 hy hR
        gi_wp2
        go_roundw
        case rel => exact ⟨k + 1, by omega, by rw [Nat.add_mul, ← HIK.out]; simp, HJ3.out, HK3⟩
        case measure => simp [intOf]; omega
      · have HJx3 : Hid (Jx (List.range (k + 1)) W3) := hJx3
        clear hJx3 hy hR
        gi_wp2
        refine bodyPost_ret (results_none rfl _ _ _) rfl ?_
        exact ⟨⟨_, rfl⟩, .inr ⟨_, ⟨k + 1, by omega, rfl⟩, HJx3.out⟩⟩
    · obtain rfl : k = N := by omega
      have hge : ¬ (ik : Int) < L := by
        have h1 : L ≤ pieces L c * c := by
          unfold pieces
          have h2 := Nat.div_add_mod (L + c - 1) c
          have h3 := Nat.mod_lt (L + c - 1) hc
          rw [Nat.mul_comm] at h2
          omega
        rw [← hN] at h1
        omega
      clear hik
      gi_wp2
      go_end0
      first | exact ⟨⟨_, rfl⟩, .inl ⟨_, rfl, HJ.out⟩⟩ | exact ⟨⟨_, rfl⟩, .inl (by rw [← hN]; exact HJ.out)⟩

/-- Chunk's iterator, in the form that a loop over it asks for. -/
theorem chunk_stops (bs bn g o L cp c N : Nat) (hN : N = pieces L c) (hL : L < 1099511627776) (hcp : L ≤ cp) (hc : 1 ≤ c) (hc' : c < 1000000) (w0 : World)
    (hbs : w0.heap[bs]? = some (.cells #[.slice (some ⟨g, o, none⟩) L cp] 30 (0, 0))) (hbn : w0.heap[bn]? = some (.cells #[.int .i64 c] 3 (0, 0))) (n : Nat) (hn : 1 ≤ n) :
    SeqStopsK Fence.wide n Tryz.prog 133 #[.pointer (some ⟨bs, 0, none⟩), .pointer (some ⟨bn, 0, none⟩)] (fun k : Fin N => #[pieceV g o L c k.1]) (KpC w0 bs bn) (fun xs => xs.map Fin.val = List.range N) (fun pre => ∃ k, k ≤ N ∧ pre.map Fin.val = List.range k) N w0 := by
  intro l J Jx W hW hJ _ hY h0
  refine (chunk1_in l bs bn g o L cp c N hL hcp hc hc' hN (fun l W => ∃ l' : List (Fin N), l'.map Fin.val = l ∧ J l' W) (fun l W => ∃ l' : List (Fin N), l'.map Fin.val = l ∧ Jx l' W) w0 hbs hbn n hn ?_ W ?_ (hW.block bs (Array.getElem?_eq_some_iff.1 hbs).1) (hW.block bn (Array.getElem?_eq_some_iff.1 hbn).1) ⟨[], rfl, h0⟩).mono ?_
  · rintro k W1 hk ⟨l', hl', hj⟩
    have hlen : l'.length = k := by have := congrArg List.length hl'; simpa using this
    have hap : (l' ++ [(⟨k, hk⟩ : Fin N)]).map Fin.val = List.range (k + 1) := by rw [List.map_append, hl', List.range_succ]; rfl
    refine (hY l' ⟨k, hk⟩ W1 hj (by omega)).mono ?_
    rintro e W' (⟨rfl, hJ', hK'⟩ | ⟨rfl, hJ'⟩)
    · exact .inl ⟨rfl, ⟨_, hap, hJ'⟩, hK'⟩
    · exact .inr ⟨rfl, _, hap, hJ'⟩
  · rintro s A B ⟨l', hl', hj⟩ hg
    exact ⟨l', hl', hJ l' A B none hj hg (fun r e => by cases e)⟩
  · rintro e W' ⟨he, ⟨xs, rfl, l', hl', hj⟩ | ⟨pre, ⟨k, hk, rfl⟩, l', hl', hj⟩⟩
    · exact ⟨he, .inl ⟨l', hl', hj⟩⟩
    · exact ⟨he, .inr ⟨l', ⟨k, hk, hl'⟩, hj⟩⟩

theorem KpC.b {w0 w : World} {bs bn : Nat} (h1 : bs < w.heap.size) (h2 : bn < w.heap.size) : ∀ (W : World) (l : Nat) (o o' : Obj), w.heap.size ≤ l → W.heap[l]? = some o → o.isCells = false → o.isWalk = false → KpC w0 bs bn W (W.putObj l o') := by
  intro W l o o' hl hx _ _ h
  have hg := grownBy_putObj' W l o'
  have hlt := (Array.getElem?_eq_some_iff.1 hx).1
  exact ⟨(hg.block bs (by omega) (by simp; omega)).trans h.1, (hg.block bn (by omega) (by simp; omega)).trans h.2⟩

end Go.Proofs.YtebdgcoandfocaaGreatDoor
