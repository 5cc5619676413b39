/-
  An entry is laid down: place.
-/
import Derived.Test.YtdocablbkafkiaaDoorDl
namespace Go.Proofs.YtdocablbkafkiaaDoor.Cd
open Go.RowKit Go.Lib

theorem dist_next {n i K : Nat} (hi : i < n) (hK : K < n) (hne : i ≠ K) : dist n (nx n i 1) K < dist n i K := by
  have a1 := @nx_cases n i 1
  generalize nx n i 1 = j at *
  have a2 := @dist_cases n j K
  have a3 := @dist_cases n i K
  omega
theorem nx_lt {n i : Nat} (hi : i < n) : nx n i 1 < n := by
  have a1 := @nx_cases n i 1
  omega

/-- What holds in each round of place: y is to be laid down in block i. -/
structure PI (base a count : Nat) (bv : Value) (D : List (List En)) (x : En) (w : World) (K n i : Nat) (y : En) (vs' : List Value) (D' : List (List En)) (wr : World) : Prop where
  dir : DirAt wr base a count bv vs' D'
  wf : WF H1 n D'
  pass : Passes H1 n D' y i
  abs : Absent D' y.name
  box : wr.heap[w.heap.size]? = some (.cells #[.string (bas y.name), .int .i64 (y.num : Nat)] 55 (0, 0))
  boxn : ∀ (j : Nat) v, vs'[j]? = some v → v.ownBlock ≠ some w.heap.size
  mem : ∀ q, (q = y ∨ q ∈ D'.flatten) ↔ (q = x ∨ q ∈ D.flatten)
  tot : total D' = total D
  fr : Fr base w wr
  K : ∃ b, D'[K]? = some b ∧ b.length < 7

/-- What place leaves. -/
def Placed (base a count : Nat) (bv : Value) (D : List (List En)) (x : En) (w w' : World) : Prop :=
  ∃ vs' D', DirAt w' base a count bv vs' D' ∧ WF H1 D.length D' ∧ (∀ q, q ∈ D'.flatten ↔ q = x ∨ q ∈ D.flatten) ∧ total D' = total D + 1 ∧ Fr base w w'

theorem mem_room {D : List (List En)} {i : Nat} {b : List En} (hb : D[i]? = some b) (y q : En) : q ∈ (D.set i (ins b y)).flatten ↔ q = y ∨ q ∈ D.flatten := by
  rw [mem_set hb, mem_ins, mem_at]
  constructor
  · rintro ((h | h) | ⟨j, d, hne, hj, hq⟩)
    · exact .inl h
    · exact .inr ⟨i, b, hb, h⟩
    · exact .inr ⟨j, d, hj, hq⟩
  · rintro (h | ⟨j, d, hj, hq⟩)
    · exact .inl (.inl h)
    · by_cases e : j = i
      · subst e; rw [hb] at hj; cases hj; exact .inl (.inr hq)
      · exact .inr ⟨j, d, e, hj, hq⟩
theorem mem_full {D : List (List En)} {i : Nat} {b : List En} (hb : D[i]? = some b) {y z : En} (hz : ins b y = (ins b y).take 7 ++ [z]) (q : En) : (q = z ∨ q ∈ (D.set i ((ins b y).take 7)).flatten) ↔ (q = y ∨ q ∈ D.flatten) := by
  rw [← mem_room hb y q, mem_set hb, mem_set hb]
  have : q ∈ ins b y ↔ q = z ∨ q ∈ (ins b y).take 7 := by
    conv => lhs; rw [hz]
    simp [or_comm]
  rw [this]
  constructor
  · rintro (h | h | h)
    · exact .inl (.inl h)
    · exact .inl (.inr h)
    · exact .inr h
  · rintro ((h | h) | h)
    · exact .inl h
    · exact .inr (.inl h)
    · exact .inr (.inr h)

theorem PI.done {base a count : Nat} {bv : Value} {D : List (List En)} {x : En} {w : World} {K i : Nat} {y : En} {vs' : List Value} {D' : List (List En)} {wr w1 : World} (h : PI base a count bv D x w K D.length i y vs' D' wr) {b : List En} {B c : Nat} {cur : Array Value} {v v' : Value}
    (hb : D'[i]? = some b) (hl : b.length < 7) (hbv : bv = .slice (some ⟨B, 0, none⟩) D'.length c) (hB : wr.heap[B]? = some (.cells cur 57 (0, 0))) (hv : vs'[i]? = some v) (ht : Turned base B i cur v v' (ins b y) wr w1) : Placed base a count bv D x w w1 := by
  obtain ⟨h1, h2⟩ := h.dir.turned hb hbv hB hv ht
  refine ⟨_, _, h1, h.wf.lay hb hl h.pass h.abs, fun q => ?_, ?_, h.fr.trans h2⟩
  · rw [mem_room hb]; exact h.mem q
  · have := total_set (c := ins b y) hb
    rw [ins_length] at this
    have := h.tot
    omega
theorem PI.next {base a count : Nat} {bv : Value} {D : List (List En)} {x : En} {w : World} {K i : Nat} {y z : En} {vs' : List Value} {D' : List (List En)} {wr w1 w2 : World} (h : PI base a count bv D x w K D.length i y vs' D' wr) {b : List En} {B c : Nat} {cur : Array Value} {v v' : Value} (hbw : base ≤ w.heap.size)
    (hb : D'[i]? = some b) (hl : b.length = 7) (hz : (ins b y)[7]? = some z) (hbv : bv = .slice (some ⟨B, 0, none⟩) D'.length c) (hB : wr.heap[B]? = some (.cells cur 57 (0, 0))) (hv : vs'[i]? = some v) (ht : Turned base B i cur v v' ((ins b y).take 7) wr w1)
    (ho : Only (fun j => j = w.heap.size) w1 w2) (hbox : w2.heap[w.heap.size]? = some (.cells #[.string (bas z.name), .int .i64 (z.num : Nat)] 55 (0, 0))) : i ≠ K ∧ PI base a count bv D x w K D.length (nx D.length i 1) z (vs'.set i v') (D'.set i ((ins b y).take 7)) w2 := by
  obtain ⟨h1, h2⟩ := h.dir.turned hb hbv hB hv ht
  obtain ⟨z', hz', e8, _, _⟩ := take_ins hl (h.wf.srt i b hb) (h.abs i b hb)
  obtain rfl : z' = z := Option.some.inj (hz'.symm.trans hz)
  obtain ⟨q1, q2, q3⟩ := h.wf.push H1_ok hb hl h.pass h.abs hz
  have hbx := block_lt h.box
  have hboxn : ∀ (j : Nat) u, (vs'.set i v')[j]? = some u → u.ownBlock ≠ some w.heap.size := fun j u hu => by
    by_cases e : i = j
    · subst e
      rw [List.getElem?_set_self (List.getElem?_eq_some_iff.1 hv).1] at hu
      cases hu
      rcases ht.new with k | ⟨g', k, hlt⟩
      · rw [k]; exact h.boxn i v hv
      · rw [k]; intro e; injection e with e; omega
    · rw [List.getElem?_set_ne e] at hu; exact h.boxn j u hu
  obtain ⟨bk, hk1, hk2⟩ := h.K
  have hiK : i ≠ K := fun e => by rw [e, hk1] at hb; cases hb; omega
  refine ⟨hiK, ?_, q1, q2, q3, hbox, hboxn, fun q => by rw [mem_full hb e8]; exact h.mem q, ?_, ?_, bk, by rw [List.getElem?_set_ne hiK]; exact hk1, hk2⟩
  · refine ⟨h1.lo, ?_, Only.ownsAny ho h1.blocks ?_, h1.rows.len, fun j u M hu hM => (h1.rows.row j u M hu hM).kept ho (fun g hg e => hboxn j u hu (by rw [hg, e])), h1.rows.apart⟩
    · rw [ho.block a (block_lt h1.dir) (fun e => ?_)]; exact h1.dir
      have := (h.dir.dir); rw [e, h.box] at this; cases this
    · intro g hg e
      rcases h1.blocks.2 with ⟨e', _⟩ | ⟨g', _, cur', e', _, hg', _⟩
      · rw [e'] at hg; cases hg
      · rw [e'] at hg
        have hgg : g' = g := by injection hg
        rw [hbv] at e'
        have eB : B = g' := by injection e' with e1; injection e1 with e1; injection e1
        rw [eB, hgg, e, h.box] at hB; cases hB
  · have := total_set (c := (ins b y).take 7) hb
    rw [List.length_take, ins_length] at this
    have := h.tot
    omega
  · refine (h.fr.trans h2).trans ?_
    refine Only.weak ho (fun j _ hj => ?_)
    subst hj
    have hkeep : w1.heap[w.heap.size]? = some (.cells #[.string (bas y.name), .int .i64 (y.num : Nat)] 55 (0, 0)) := by
      rw [ht.only.block _ hbx ?_]; exact h.box
      rintro (e | e)
      · rw [← e, h.box] at hB; cases hB
      · exact h.boxn i v hv e
    exact ⟨hbw, _, _, _, hkeep, .inr (.inr rfl)⟩

end Go.Proofs.YtdocablbkafkiaaDoor.Cd
