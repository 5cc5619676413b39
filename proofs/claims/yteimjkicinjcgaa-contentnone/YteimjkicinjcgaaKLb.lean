/-
  What versions say; copies of them; one is behind another one.
-/
import Derived.Test.YteimjkicinjcgaaKLa

namespace Go.Proofs.Yteimjkicinjcgaa.Ck.Y.L
open Go.RowKit Go.Maps

/-- What a version says. -/
structure VC where
  t : Int
  n : Int
  sq : Int
  ns : List Int
  bs : List (BitVec 8)
def VG.c (x : VG) : VC := ⟨x.t, x.n, x.sq, x.ns, x.bs⟩

/-- A version that comes in. -/
structure VIn (w : World) (x : VG) : Prop where
  seen : Cd.Lies w x.sp (x.ns.map Cd.iv)
  sc : x.ns.length ≤ x.sc
  data : Cd.Bytes w x.dp x.bs
  dc : x.bs.length ≤ x.dc
  nl : x.ns.length ≤ 1000000
  bl : x.bs.length ≤ 1000000
/-- A version with rows of its own. -/
structure VOwn (w : World) (base : Nat) (x : VG) : Prop where
  seen : w.ownsRow base 2 1 (.slice x.sp x.ns.length x.sc) x.ns.length (x.ns.map Cd.iv)
  data : w.ownsRow base 5 1 (.slice x.dp x.bs.length x.dc) x.bs.length (x.bs.map Cd.u8v)
  nl : x.ns.length ≤ 1000000
  bl : x.bs.length ≤ 1000000
theorem VIn.below {w w' : World} {x : VG} (h : VIn w x) (hb : Below w.heap.size w w') : VIn w' x := ⟨Cd.below_lies hb h.seen, h.sc, Cd.below_bytes hb h.data, h.dc, h.nl, h.bl⟩
theorem VOwn.below {w w' : World} {base : Nat} {x : VG} (h : VOwn w base x) (hb : Below w.heap.size w w') : VOwn w' base x := ⟨own_below h.seen hb, own_below h.data hb, h.nl, h.bl⟩
theorem own_lies {w : World} {base : Nat} {p : Option Addr} {n c : Nat} {ns : List Int} (h : w.ownsRow base 2 1 (.slice p n c) ns.length (ns.map Cd.iv)) : Cd.Lies w p (ns.map Cd.iv) ∧ ns.length ≤ c := by
  rcases h.2 with ⟨e, h0⟩ | ⟨g, cap, cur, e, hb, hg, hn, hm, hs, ht⟩
  · cases e
    exact ⟨fun h => absurd h (by simp [h0]), by omega⟩
  · cases e
    refine ⟨fun _ => ⟨g, 0, rfl, fun j v hj => ?_⟩, hn⟩
    have hlt := (List.getElem?_eq_some_iff.1 hj).1
    rw [List.length_map] at hlt
    rw [Nat.zero_add, h.cellAt j (by omega), hj]
theorem VOwn.comes {w : World} {base : Nat} {x : VG} (h : VOwn w base x) : VIn w x := by
  obtain ⟨h1, h2⟩ := own_lies h.seen
  obtain ⟨_, p, cap, e, hc, hb, _⟩ := Cd.owns_bytes h.data
  cases e
  exact ⟨h1, h2, hb, hc, h.nl, h.bl⟩
/-- No block of S is a row of numbers or bytes. -/
def Hard (w : World) (S : Nat → Prop) : Prop := ∀ b, S b → ∀ cs t, w.heap[b]? = some (.cells cs t (0, 0)) → t ≠ 2 ∧ t ≠ 5
theorem own_kept {w w' : World} {S : Nat → Prop} {base : Nat} {e : TypeId} {size : Nat} {v : Value} {n : Nat} {xs : List Value} (h : w.ownsRow base e size v n xs) (ho : Only S w w') (hs : ∀ b, S b → ∀ cs t, w.heap[b]? = some (.cells cs t (0, 0)) → t ≠ e) : w'.ownsRow base e size v n xs := by
  refine ⟨h.1, ?_⟩
  rcases h.2 with h0 | ⟨g, cap, cur, hv, hb, hg, r⟩
  · exact .inl h0
  · exact .inr ⟨g, cap, cur, hv, hb, (ho.block g (block_lt hg) (fun hS => hs g hS _ _ hg rfl)).trans hg, r⟩
theorem VOwn.kept {w w' : World} {S : Nat → Prop} {base : Nat} {x : VG} (h : VOwn w base x) (ho : Only S w w') (hs : Hard w S) : VOwn w' base x :=
  ⟨own_kept h.seen ho fun b hb cs t ht => (hs b hb cs t ht).1, own_kept h.data ho fun b hb cs t ht => (hs b hb cs t ht).2, h.nl, h.bl⟩
theorem VOwn.base {w : World} {base base' : Nat} {x : VG} (h : VOwn w base x) (hb : base' ≤ base) : VOwn w base' x := by
  have key : ∀ {e : TypeId} {v : Value} {n : Nat} {xs : List Value}, w.ownsRow base e 1 v n xs → w.ownsRow base' e 1 v n xs := by
    intro e v n xs h
    refine ⟨h.1, ?_⟩
    rcases h.2 with h0 | ⟨g, cap, cur, hv, hb2, r⟩
    · exact .inl h0
    · exact .inr ⟨g, cap, cur, hv, by omega, r⟩
  exact ⟨key h.seen, key h.data, h.nl, h.bl⟩

theorem info2 : ∃ i, Try.prog.info? 2 = some i ∧ i.zero = some (.int .i64 0) ∧ i.size = 1 ∧ i.bytes = 8 := by
  have e : (Try.prog.info? 2).map (fun i => (i.zero, i.size, i.bytes)) = some (some (.int .i64 0), 1, 8) := by kernel_rfl
  obtain ⟨i, hi, he⟩ := Option.map_eq_some_iff.1 e
  injection he with h1 h2
  injection h2 with h2 h3
  exact ⟨i, hi, h1, h2, h3⟩
theorem iv_one (ns : List Int) : ∀ v ∈ ns.map Cd.iv, v.oneCell' = true := by
  intro v hv
  obtain ⟨b, _, rfl⟩ := List.mem_map.1 hv
  rfl

set_option maxRecDepth 8000 in
set_option maxHeartbeats 1000000 in
theorem vclone_any (p : Option Addr) (ns : List Int) (cp : Nat) (w : World) (hl : ns.length ≤ 1000000) (hp : Cd.Lies w p (ns.map Cd.iv)) :
    Calls Try.prog 58 #[.slice p ns.length cp] w fun e w' => ∃ v, e = .returned v ∧ w'.ownsRow w.heap.size 2 1 v ns.length (ns.map Cd.iv) ∧ Below w.heap.size w w' := by
  have qT : ∀ (w : World) (a : Option Addr) (n c n' c' : Nat), (binOp .eql 33 (.slice a n c) (.slice none n' c')).run Try.prog w = .ok (.bool a.isNone) w := fun w a n c n' c' => Lib.run_eql_slice_nil w _ _ a n c n' c' Try.underlying33
  rcases p with _ | ad
  · have h0 : ns = [] := by
      by_cases hl : 0 < ns.length
      · obtain ⟨_, _, h, _⟩ := hp (by simpa using hl); cases h
      · exact List.eq_nil_of_length_eq_zero (by omega)
    subst h0
    clear hl hp
    go_enter Try.func58, Try.ntmps58
    go_wp2
    go_ret
    exact ⟨_, rfl, World.ownsRow_nil _ _ _ _, Below.refl _ _⟩
  · obtain ⟨i0, hi0, hz0, hz1, hz2⟩ := info2
    obtain ⟨w1, hw1⟩ : ∃ w1, w1 = w.alloc (.cells #[] 2) := ⟨_, rfl⟩
    have hO : w1.ownsRow w.heap.size 2 1 (.slice (some ⟨w.heap.size, 0, none⟩) 0 0) 0 [] := by rw [hw1]; exact World.ownsRow_lit w #[] 0 (Nat.le_refl _) (by decide) rfl
    have hB1 : Below w.heap.size w w1 := by rw [hw1]; exact (below_new w _).out
    have hp1 := Cd.below_lies hB1 hp
    have hsz : w1.heap.size = w.heap.size + 1 := by rw [hw1]; simp
    obtain ⟨v', w', hr, h2, h3, _, h5⟩ := run_append_own_at (P := Try.prog) w1 w.heap.size 33 33 2 i0 _ 1 8 Try.underlying33 hi0 hz0 hz1 hz2 rfl (by omega) _ 0 [] hO ad ns.length cp (ns.map Cd.iv) (by simp)
      (fun j u hj => by
        obtain ⟨b, o, e, hc⟩ := hp1 (by have := (List.getElem?_eq_some_iff.1 hj).1; omega)
        cases e
        rw [Addr.add_lit]
        exact hc j u hj) (iv_one ns) (by unfold maxLen; omega) (by omega) (by omega)
    have H : Hid (w'.ownsRow w.heap.size 2 1 v' ns.length (ns.map Cd.iv) ∧ Below w.heap.size w w') := ⟨by simpa using h2, hB1.grown h3 (by omega) (by intro k hk; simp [Value.ownBlock] at hk; omega)⟩
    rw [hw1] at hr
    clear hl hp hw1 hO hB1 hp1 hsz h2 h3 h5 hi0 hz0 hz1 hz2
    go_enter Try.func58, Try.ntmps58
    go_wp2_with (at_builtin; refine Lib.wpList_append_run _ rfl _ _ _ _ rfl _ _ rfl rfl _ _ hr ?_)
    go_ret
    exact ⟨_, rfl, H.out⟩

end Go.Proofs.Yteimjkicinjcgaa.Ck.Y.L
