/-
  An entry is laid down, and no block that is not the directory's own is turned.
-/
import Derived.Test.YtdocablbkafkiaaDoorDn
namespace Go.Proofs.YtdocablbkafkiaaDoor.Cd
open Go.RowKit Go.Lib

/-- The blocks of a directory behind its own struct. -/
def Mine (bv : Value) (vs : List Value) (k : Nat) : Prop := bv.ownBlock = some k ∨ ∃ (j : Nat) (v : Value), vs[j]? = some v ∧ v.ownBlock = some k
structure PJ (base a count : Nat) (bv : Value) (vs : List Value) (D : List (List En)) (x : En) (w : World) (K n i : Nat) (y : En) (vs' : List Value) (D' : List (List En)) (wr : World) : Prop where
  pi : PI base a count bv D x w K n i y vs' D' wr
  keep : ∀ k, k < w.heap.size → ¬ Mine bv vs k → wr.heap[k]? = w.heap[k]?
  vsn : ∀ (j : Nat) v g, vs'[j]? = some v → v.ownBlock = some g → Mine bv vs g ∨ w.heap.size ≤ g
def Placek (base a count : Nat) (bv : Value) (vs : List Value) (D : List (List En)) (x : En) (w w' : World) : Prop :=
  ∃ vs' D', DirAt w' base a count bv vs' D' ∧ WF H1 D.length D' ∧ (∀ q, q ∈ D'.flatten ↔ q = x ∨ q ∈ D.flatten) ∧ total D' = total D + 1 ∧ Fr base w w' ∧ (∀ k, k < w.heap.size → ¬ Mine bv vs k → w'.heap[k]? = w.heap[k]?) ∧ (∀ (j : Nat) v g, vs'[j]? = some v → v.ownBlock = some g → Mine bv vs g ∨ w.heap.size ≤ g)

theorem PJ.turn {base a count : Nat} {bv : Value} {vs : List Value} {D : List (List En)} {x : En} {w : World} {K i : Nat} {y : En} {vs' : List Value} {D' : List (List En)} {wr w1 : World} (h : PJ base a count bv vs D x w K D.length i y vs' D' wr) {M : List En} {B c n : Nat} {cur : Array Value} {v v' : Value}
    (hbv : bv = .slice (some ⟨B, 0, none⟩) n c) (hv : vs'[i]? = some v) (ht : Turned base B i cur v v' M wr w1) :
    (∀ k, k < w.heap.size → ¬ Mine bv vs k → w1.heap[k]? = w.heap[k]?) ∧ (∀ (j : Nat) u g, (vs'.set i v')[j]? = some u → u.ownBlock = some g → Mine bv vs g ∨ w.heap.size ≤ g) := by
  have hsz : w.heap.size ≤ wr.heap.size := h.pi.fr.size
  refine ⟨fun k hk hm => ?_, fun j u g hu hg => ?_⟩
  · rw [ht.only.block k (by omega) ?_]
    · exact h.keep k hk hm
    · rintro (e | e)
      · exact hm (.inl (by rw [hbv, e]; rfl))
      · rcases h.vsn i v k hv e with h1 | h1
        · exact hm h1
        · omega
  · rw [List.getElem?_set] at hu
    split at hu
    · split at hu
      · cases hu
        rcases ht.new with k | ⟨g', k, hlt⟩
        · rw [k] at hg; exact h.vsn i v g hv hg
        · rw [k] at hg; cases hg; exact .inr (by omega)
      · cases hu
    · exact h.vsn j u g hu hg
theorem PJ.done {base a count : Nat} {bv : Value} {vs : List Value} {D : List (List En)} {x : En} {w : World} {K i : Nat} {y : En} {vs' : List Value} {D' : List (List En)} {wr w1 : World} (h : PJ base a count bv vs D x w K D.length i y vs' D' wr) {b : List En} {B c : Nat} {cur : Array Value} {v v' : Value}
    (hb : D'[i]? = some b) (hl : b.length < 7) (hbv : bv = .slice (some ⟨B, 0, none⟩) D'.length c) (hB : wr.heap[B]? = some (.cells cur 57 (0, 0))) (hv : vs'[i]? = some v) (ht : Turned base B i cur v v' (ins b y) wr w1) : Placek base a count bv vs D x w w1 := by
  obtain ⟨h1, h2⟩ := h.pi.dir.turned hb hbv hB hv ht
  obtain ⟨k1, k2⟩ := h.turn hbv hv ht
  refine ⟨_, _, h1, h.pi.wf.lay hb hl h.pi.pass h.pi.abs, fun q => ?_, ?_, h.pi.fr.trans h2, k1, k2⟩
  · rw [mem_room hb]; exact h.pi.mem q
  · have := total_set (c := ins b y) hb
    rw [ins_length] at this
    have := h.pi.tot
    omega
theorem PJ.next {base a count : Nat} {bv : Value} {vs : List Value} {D : List (List En)} {x : En} {w : World} {K i : Nat} {y z : En} {vs' : List Value} {D' : List (List En)} {wr w1 w2 : World} (h : PJ base a count bv vs D x w K D.length i y vs' D' wr) {b : List En} {B c : Nat} {cur : Array Value} {v v' : Value} (hbw : base ≤ w.heap.size)
    (hb : D'[i]? = some b) (hl : b.length = 7) (hz : (ins b y)[7]? = some z) (hbv : bv = .slice (some ⟨B, 0, none⟩) D'.length c) (hB : wr.heap[B]? = some (.cells cur 57 (0, 0))) (hv : vs'[i]? = some v) (ht : Turned base B i cur v v' ((ins b y).take 7) wr w1)
    (ho : Only (fun j => j = w.heap.size) w1 w2) (hbox : w2.heap[w.heap.size]? = some (.cells #[.string (bas z.name), .int .i64 (z.num : Nat)] 55 (0, 0))) : i ≠ K ∧ PJ base a count bv vs D x w K D.length (nx D.length i 1) z (vs'.set i v') (D'.set i ((ins b y).take 7)) w2 := by
  obtain ⟨q1, q2⟩ := h.pi.next hbw hb hl hz hbv hB hv ht ho hbox
  obtain ⟨k1, k2⟩ := h.turn hbv hv ht
  have hsz : w.heap.size ≤ w1.heap.size := Nat.le_trans h.pi.fr.size ht.only.size
  exact ⟨q1, q2, fun k hk hm => (ho.block k (by omega) (by omega)).trans (k1 k hk hm), k2⟩

end Go.Proofs.YtdocablbkafkiaaDoor.Cd
