/-
  Two arrays of sixty-four numbers held against each other; Eq.
-/
import Derived.Test.YtegjageenofbjaaGreatVwth
namespace Go.Proofs.YtegjageenofbjaaGreat.Vc
open Go.RowKit

theorem part38 {ns : List Int} {k : Nat} {x : Int} (hx : ns[k]? = some x) (w : World) : (part 2 (row ns) k).run Tryz.prog w = .ok (.int .i64 x) w := by
  have h2 : (row ns)[k]? = some (.int .i64 x) := by rw [row_get, hx]; rfl
  simp [part, Tryz.isAgg2, h2]

theorem loop38 (d : Nat) {xs ys : List Int} (hx : xs.length = 64) (hy : ys.length = 64) (w : World) : ∀ l : List Nat, (∀ i ∈ l, i < 64) →
    (forIn l ((none : Option Bool), ()) fun i __s => do
            let __do_lift ← part 2 (row xs) i
            let __do_lift_1 ← part 2 (row ys) i
            let __do_lift ← Op.equalIn (d + 1) 2 __do_lift __do_lift_1
            if (!__do_lift) = true then pure (ForInStep.done (some false, ())) else pure (ForInStep.yield (none, ()))).run Tryz.prog w = .ok (if l.all (fun i => xs[i]? == ys[i]?) then (none, ()) else (some false, ())) w
  | [], _ => by simp
  | i :: l, h => by
    have hi := h i (by simp)
    obtain ⟨x, ex⟩ : ∃ x, xs[i]? = some x := ⟨_, List.getElem?_eq_getElem (by omega)⟩
    obtain ⟨y, ey⟩ : ∃ y, ys[i]? = some y := ⟨_, List.getElem?_eq_getElem (by omega)⟩
    have ih := loop38 d hx hy w l (fun j hj => h j (by simp [hj]))
    simp only [List.forIn_cons, Sem.run_bind, part38 ex, part38 ey, Result.andThen_ok, run_equalIn_int w d 2 .i64 .i64 x y Tryz.underlying2, List.all_cons, ex, ey]
    by_cases e : x = y
    · subst e
      simpa using ih
    · simp [e]

theorem all_eq {xs ys : List Int} (hx : xs.length = 64) (hy : ys.length = 64) : ((List.range' 0 64).all fun i => xs[i]? == ys[i]?) = decide (xs = ys) := by
  rw [Bool.eq_iff_iff, List.all_eq_true, decide_eq_true_iff]
  constructor
  · intro h
    apply List.ext_getElem?
    intro i
    by_cases hi : i < 64
    · exact eq_of_beq (h i (by simp; omega))
    · rw [List.getElem?_eq_none (by omega), List.getElem?_eq_none (by omega)]
  · rintro rfl i _
    simp

theorem equal38_at (d d' : Nat) (hd : d = d' + 1) {xs ys : List Int} (hx : xs.length = 64) (hy : ys.length = 64) (w : World) : (Op.equalIn (d + 1) 89 (.agg (row xs)) (.agg (row ys))).run Tryz.prog w = .ok (decide (xs = ys)) w := by
  have := loop38 d' hx hy w (List.range' 0 64) (fun i hi => by simpa using hi)
  rw [← hd] at this
  simp only [Op.equalIn, Sem.run_bind, run_underlying Tryz.underlying89, Result.andThen_ok, Tryz.sizeOf2, Std.Legacy.Range.forIn_eq_forIn_range', Nat.mul_one, Std.Legacy.Range.size]
  rw [show (64 - 0 + 1 - 1) / 1 = 64 from rfl, this, all_eq hx hy]
  by_cases e : xs = ys
  · simp [e]
  · simp [e]
theorem equal38 {xs ys : List Int} (hx : xs.length = 64) (hy : ys.length = 64) (w : World) : (Op.equalIn 10000 89 (.agg (row xs)) (.agg (row ys))).run Tryz.prog w = .ok (decide (xs = ys)) w := equal38_at 9999 9998 rfl hx hy w

theorem guard38 : Tryz.prog.eqGuardType Tryz.prog.depth 89 = false := by kernel_rfl

set_option maxRecDepth 8000 in
set_option maxRecDepth 8000 in
set_option maxHeartbeats 400000 in
theorem eq_any (p q : Option Addr) (a b : List Int) (cp cq : Nat) (w : World) (hp : Lies w p (a.map iv)) (hq : Lies w q (b.map iv)) :
    Calls Tryz.prog 45 #[.slice p a.length cp, .slice q b.length cq] w fun e w' => e = .returned (.bool (eqB a b)) ∧ Below w.heap.size w w' := by
  have ca := countsOf_any p a cp w hp
  have cb := fun w' (h : Below w.heap.size w w') => countsOf_any q b cq w' (below_lies h hq)
  unfold eqB
  have he := fun w' => equal38 (nums_length (atOf a)) (nums_length (atOf b)) w'
  obtain ⟨xs, hxs⟩ : ∃ xs, nums (atOf a) = xs := ⟨_, rfl⟩
  obtain ⟨zs, hzs⟩ : ∃ zs, nums (atOf b) = zs := ⟨_, rfl⟩
  rw [hxs] at ca he
  rw [hzs] at cb he
  rw [hxs, hzs]
  obtain ⟨r, hr⟩ : ∃ r, decide (xs = zs) = r := ⟨_, rfl⟩
  simp only [hr] at he ⊢
  have CB : Hid (∀ w', Below w.heap.size w w' → Calls Tryz.prog 80 #[.slice q b.length cq] w' fun e w'' => e = .returned (.agg (row zs)) ∧ Below w'.heap.size w' w'') := cb
  have hg := guard38
  clear cb hp hq hxs hzs hr
  go_enter Tryz.func45, Tryz.ntmps45
  go_wp2_with (first
    | (go_at_call 80; refine Calls_new ca ?_; intro w1 HB; clear ca)
    | (go_at_call 80; refine Calls_new (CB.out w1 HB.out) ?_; intro w2 HB2; clear CB))
  go_ret
  exact ⟨rfl, Below.then HB.out HB2.out (Nat.le_refl _)⟩

end Go.Proofs.YtegjageenofbjaaGreat.Vc
