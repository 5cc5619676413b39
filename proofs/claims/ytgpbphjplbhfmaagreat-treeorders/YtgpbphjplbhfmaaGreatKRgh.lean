import Derived.Test.YtgpbphjplbhfmaaGreatKZr

namespace Go.Proofs.YtgpbphjplbhfmaaGreat
open Go.RowKit
def tv (T : List (Option Tmp × Option Value)) (k : Nat) : Option Value := (T.getD k (none, some undef)).2
def LG (g : Nat → Value) : Nat → List (Option Tmp × Option Value) → List (Option Tmp × Value)
  | _, [] => []
  | k, (s, some v) :: r => (s, v) :: LG g (k + 1) r
  | k, (s, none) :: r => (s, g k) :: LG g (k + 1) r
theorem LG_fst (g : Nat → Value) : ∀ (T : List (Option Tmp × Option Value)) (b : Nat), (LG g b T).map (·.1) = T.map (·.1)
  | [], _ => rfl
  | (s, some v) :: r, b => by rw [LG, List.map_cons, List.map_cons, LG_fst g r]
  | (s, none) :: r, b => by rw [LG, List.map_cons, List.map_cons, LG_fst g r]
theorem vals_LG (g : Nat → Value) : ∀ (T : List (Option Tmp × Option Value)) (b k : Nat), vals (LG g b T) k = (tv T k).getD (g (b + k))
  | [], b, k => rfl
  | (s, some v) :: r, b, 0 => rfl
  | (s, none) :: r, b, 0 => rfl
  | (s, some v) :: r, b, k + 1 => by
    have := vals_LG g r (b + 1) k
    rw [show b + 1 + k = b + (k + 1) by omega] at this
    exact this
  | (s, none) :: r, b, k + 1 => by
    have := vals_LG g r (b + 1) k
    rw [show b + 1 + k = b + (k + 1) by omega] at this
    exact this
theorem tvv {T : List (Option Tmp × Option Value)} {j : Nat} {v x : Value} (h : tv T j = some v) : (tv T j).getD x = v := by rw [h]; rfl
theorem eT {ops : Array Oper} {o : Oper} {b : Nat → Bool} {a : Act} {T : List (Option Tmp × Option Value)} {g : Nat → Value} {v : Value} (ev : ∀ j s, slotOf ops j = some s → b j = true → a.tmps[s]?.getD undef = (tv T j).getD (g j)) (hd : ∀ e ∈ o.after.toList, Region.binds .any e = true → b e.on = true) (k : Nat) (s : Tmp) (h : tv T k = some v) (hs : slotOf ops k = some s := by rfl) (hm : (⟨k, .data⟩ : Edge) ∈ o.after.toList := by simp) : a.tmps[s]?.getD undef = v := (ev k s hs (hd _ hm rfl)).trans (tvv h)
def StepT (P : Program) (ops : Array Oper) (a : Act) (W : World) (o : Oper) (x : Option Value) (F : Value → World → Prop) : Prop := match x with
  | some v => Does P ops a W o v (Below W.heap.size W)
  | none => Doesg P ops a W o fun v W' => Below W.heap.size W W' ∧ F v W'
theorem region_gh {P : Program} {id : Nat} {ops : Array Oper} {Q : Exit → Act → World → Prop} {base : Array Value} {d : List Deferred} {w0 : World} (hm : P.follows .mixedOrders = true) (hdep : inRow ops = true) (m : Nat) (hsz : base.size = m) (hap : apartB ops m = true) (T : List (Option Tmp × Option Value)) (hT : T.map (·.1) = ops.toList.map (·.dst)) (Fin : Nat → Value → World → Prop) (hst : ∀ i v W W', Fin i v W → Below W.heap.size W W' → Fin i v W') (hstep : ∀ (g : Nat → Value) (b : Nat → Bool) (W : World) (i : Nat) (o : Oper) (a : Act), Below w0.heap.size w0 W → (∀ j, b j = true → tv T j = none → Fin j (g j) W) →
      (∀ (j : Nat) (u : Oper), ops[j]? = some u → b j = true → ∀ e ∈ u.after.toList, Region.binds .any e = true → b e.on = true) → ops[i]? = some o → b i = false →
      (∀ e ∈ o.after.toList, Region.binds .any e = true → b e.on = true) →
      (∀ j s, slotOf ops j = some s → b j = true → a.tmps[s]?.getD undef = (tv T j).getD (g j)) → (∀ s, (∀ j, slotOf ops j = some s → b j = false) → a.tmps[s]?.getD undef = base.getD s undef) → (∀ j s x, slotOf ops j = some s → b j = true → tv T j = some (.bool x) → yielded ops a.tmps j = some x) →
      StepT P ops a W o (tv T i) (Fin i)) (hend : ∀ (g : Nat → Value) (W : World), Below w0.heap.size w0 W → (∀ j, j < ops.size → tv T j = none → Fin j (g j) W) → Q .normal ⟨putAll base (LG g 0 T), d⟩ W) :
    (Code.region id ops true).wp P Q ⟨base, d⟩ w0 := by
  have hv : ∀ (g : Nat → Value) j, vals (LG g 0 T) j = (tv T j).getD (g j) := fun g j => by rw [vals_LG, Nat.zero_add]
  refine region_laidg hm hdep m hsz hap (fun _ => undef) (fun g => LG g 0 T) (fun g => by rw [LG_fst, hT]) (fun g b W => Below w0.heap.size w0 W ∧ ∀ j, b j = true → tv T j = none → Fin j (g j) W) ⟨(Below.refl _ _).drew, fun j h => by cases h⟩ ?_ ?_
  · rintro g b W i o a ⟨hB, hF⟩ hcl ho hb hd ev kp yl
    have hs := hstep g b W i o a hB hF hcl ho hb hd (fun j s h1 h2 => (ev j s h1 h2).trans (hv g j)) kp (fun j s x h1 h2 h3 => yl j s x h1 h2 (by rw [hv, h3]; rfl))
    have keep : ∀ W', Below W.heap.size W W' → Below w0.heap.size w0 W' := fun W' h => hB.trans (h.mono hB.size)
    cases ht : tv T i with
    | some v =>
      rw [ht] at hs
      have fin : ∀ W', Below W.heap.size W W' → ∃ g', (∀ j, b j = true → vals (LG g' 0 T) j = vals (LG g 0 T) j) ∧ v = vals (LG g' 0 T) i ∧ Below w0.heap.size w0 W' ∧ ∀ j, did b i j = true → tv T j = none → Fin j (g' j) W' := fun W' h => by
        refine ⟨g, fun _ _ => rfl, by rw [hv, ht]; rfl, keep W' h, fun j hj hn => ?_⟩
        by_cases e : j = i
        · subst e; rw [ht] at hn; cases hn
        · rw [show did b i j = b j from if_neg e] at hj
          exact hst j _ W W' (hF j hj hn) h
      cases hs with
      | value w' hw hnd hrun hK => exact .value v w' hw hnd hrun (fin w' hK)
      | call f args hw hnd hrun hc => exact .call f args hw hnd hrun (hc.mono fun e w'' h => ⟨v, h.1, fin w'' h.2⟩)
      | pass hw hv' hK => subst hv'; exact .pass hw (fin W hK)
    | none =>
      rw [ht] at hs
      have fin : ∀ v W', Below W.heap.size W W' ∧ Fin i v W' → ∃ g', (∀ j, b j = true → vals (LG g' 0 T) j = vals (LG g 0 T) j) ∧ v = vals (LG g' 0 T) i ∧ Below w0.heap.size w0 W' ∧ ∀ j, did b i j = true → tv T j = none → Fin j (g' j) W' := fun v W' h => by
        refine ⟨fun j => if j = i then v else g j, fun j hj => ?_, by rw [hv, ht]; simp, keep W' h.1, fun j hj hn => ?_⟩
        · have e : j ≠ i := fun e => by rw [e, hb] at hj; cases hj
          rw [hv, hv, if_neg e]
        · by_cases e : j = i
          · subst e
            show Fin j (if j = j then v else g j) W'
            rw [if_pos rfl]; exact h.2
          · rw [show did b i j = b j from if_neg e] at hj
            show Fin j (if j = i then v else g j) W'
            rw [if_neg e]
            exact hst j _ W W' (hF j hj hn) h.1
      cases hs with
      | value v w' hw hnd hrun hK => exact .value v w' hw hnd hrun (fin v w' hK)
      | call f args hw hnd hrun hc => exact .call f args hw hnd hrun (hc.mono fun e w'' ⟨v, h1, h2⟩ => ⟨v, h1, fin v w'' h2⟩)
      | skip w' hw hnd hrun hK => exact .skip w' hw hnd hrun (fin undef w' hK)
      | pass hw hK => exact .pass hw (fin undef W hK)
  · rintro g b W ⟨hB, hF⟩ hall
    refine hend g W hB fun j hj hn => hF j (hall j hj) hn
def StepJ (P : Program) (ops : Array Oper) (a : Act) (W : World) (o : Oper) (J : World → Prop) (R : World → World → Prop) (x : Option Value) (F : Value → World → Prop) : Prop := match x with
  | some v => Does P ops a W o v (fun W' => J W' ∧ R W W')
  | none => Doesg P ops a W o fun v W' => (J W' ∧ R W W') ∧ F v W'
theorem region_gj {P : Program} {id : Nat} {ops : Array Oper} {Q : Exit → Act → World → Prop} {base : Array Value} {d : List Deferred} {w0 : World} (hm : P.follows .mixedOrders = true) (hdep : inRow ops = true) (m : Nat) (hsz : base.size = m) (hap : apartB ops m = true) (T : List (Option Tmp × Option Value)) (hT : T.map (·.1) = ops.toList.map (·.dst)) (J : World → Prop) (R : World → World → Prop) (hJ : J w0.drew) (Fin : Nat → Value → World → Prop) (hst : ∀ i v W W', Fin i v W → R W W' → Fin i v W') (hstep : ∀ (g : Nat → Value) (b : Nat → Bool) (W : World) (i : Nat) (o : Oper) (a : Act), J W → (∀ j, b j = true → tv T j = none → Fin j (g j) W) →
      (∀ (j : Nat) (u : Oper), ops[j]? = some u → b j = true → ∀ e ∈ u.after.toList, Region.binds .any e = true → b e.on = true) → ops[i]? = some o → b i = false →
      (∀ e ∈ o.after.toList, Region.binds .any e = true → b e.on = true) →
      (∀ j s, slotOf ops j = some s → b j = true → a.tmps[s]?.getD undef = (tv T j).getD (g j)) → (∀ s, (∀ j, slotOf ops j = some s → b j = false) → a.tmps[s]?.getD undef = base.getD s undef) → (∀ j s x, slotOf ops j = some s → b j = true → tv T j = some (.bool x) → yielded ops a.tmps j = some x) →
      StepJ P ops a W o J R (tv T i) (Fin i)) (hend : ∀ (g : Nat → Value) (W : World), J W → (∀ j, j < ops.size → tv T j = none → Fin j (g j) W) → Q .normal ⟨putAll base (LG g 0 T), d⟩ W) :
    (Code.region id ops true).wp P Q ⟨base, d⟩ w0 := by
  have hv : ∀ (g : Nat → Value) j, vals (LG g 0 T) j = (tv T j).getD (g j) := fun g j => by rw [vals_LG, Nat.zero_add]
  refine region_laidg hm hdep m hsz hap (fun _ => undef) (fun g => LG g 0 T) (fun g => by rw [LG_fst, hT]) (fun g b W => J W ∧ ∀ j, b j = true → tv T j = none → Fin j (g j) W) ⟨hJ, fun j h => by cases h⟩ ?_ ?_
  · rintro g b W i o a ⟨hB, hF⟩ hcl ho hb hd ev kp yl
    have hs := hstep g b W i o a hB hF hcl ho hb hd (fun j s h1 h2 => (ev j s h1 h2).trans (hv g j)) kp (fun j s x h1 h2 h3 => yl j s x h1 h2 (by rw [hv, h3]; rfl))
    cases ht : tv T i with
    | some v =>
      rw [ht] at hs
      have fin : ∀ W', J W' ∧ R W W' → ∃ g', (∀ j, b j = true → vals (LG g' 0 T) j = vals (LG g 0 T) j) ∧ v = vals (LG g' 0 T) i ∧ J W' ∧ ∀ j, did b i j = true → tv T j = none → Fin j (g' j) W' := fun W' h => by
        refine ⟨g, fun _ _ => rfl, by rw [hv, ht]; rfl, h.1, fun j hj hn => ?_⟩
        by_cases e : j = i
        · subst e; rw [ht] at hn; cases hn
        · rw [show did b i j = b j from if_neg e] at hj
          exact hst j _ W W' (hF j hj hn) h.2
      cases hs with
      | value w' hw hnd hrun hK => exact .value v w' hw hnd hrun (fin w' hK)
      | call f args hw hnd hrun hc => exact .call f args hw hnd hrun (hc.mono fun e w'' h => ⟨v, h.1, fin w'' h.2⟩)
      | pass hw hv' hK => subst hv'; exact .pass hw (fin W hK)
    | none =>
      rw [ht] at hs
      have fin : ∀ v W', (J W' ∧ R W W') ∧ Fin i v W' → ∃ g', (∀ j, b j = true → vals (LG g' 0 T) j = vals (LG g 0 T) j) ∧ v = vals (LG g' 0 T) i ∧ J W' ∧ ∀ j, did b i j = true → tv T j = none → Fin j (g' j) W' := fun v W' h => by
        refine ⟨fun j => if j = i then v else g j, fun j hj => ?_, by rw [hv, ht]; simp, h.1.1, fun j hj hn => ?_⟩
        · have e : j ≠ i := fun e => by rw [e, hb] at hj; cases hj
          rw [hv, hv, if_neg e]
        · by_cases e : j = i
          · subst e
            show Fin j (if j = j then v else g j) W'
            rw [if_pos rfl]; exact h.2
          · rw [show did b i j = b j from if_neg e] at hj
            show Fin j (if j = i then v else g j) W'
            rw [if_neg e]
            exact hst j _ W W' (hF j hj hn) h.1.2
      cases hs with
      | value v w' hw hnd hrun hK => exact .value v w' hw hnd hrun (fin v w' hK)
      | call f args hw hnd hrun hc => exact .call f args hw hnd hrun (hc.mono fun e w'' ⟨v, h1, h2⟩ => ⟨v, h1, fin v w'' h2⟩)
      | skip w' hw hnd hrun hK => exact .skip w' hw hnd hrun (fin undef w' hK)
      | pass hw hK => exact .pass hw (fin undef W hK)
  · rintro g b W ⟨hB, hF⟩ hall
    refine hend g W hB fun j hj hn => hF j (hall j hj) hn
section
variable {P : Program} {ops : Array Oper} {a : Act} {w w' : World} {o : Oper} {v : Value} {K : Value → World → Prop}
end
end Go.Proofs.YtgpbphjplbhfmaaGreat
