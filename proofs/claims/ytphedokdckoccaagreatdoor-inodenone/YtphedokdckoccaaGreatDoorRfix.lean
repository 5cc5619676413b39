/-
  A region that draws its order, in a round of a loop over an iterator: one proof for each operation, whatever the order.
-/
import Derived.Test.YtphedokdckoccaaGreatDoorWchunk
namespace Go.Proofs.YtphedokdckoccaaGreatDoor
open Go.RowKit Go.Maps Go.Sort Go.Shelf

/-- How many operations are still to come. -/
def toCome (m : Nat) (listed : Array Bool) : Nat := ((List.range m).filter fun i => !listed.getD i true).length

theorem toCome_set {m : Nat} {listed : Array Bool} {i : Nat} (hi : i < m) (hs : listed.size = m) (h : listed.getD i true = false) : toCome m (listed.setIfInBounds i true) + 1 = toCome m listed := by
  unfold toCome
  have key : ∀ l : List Nat, l.Nodup → i ∈ l → (l.filter fun j => !(listed.setIfInBounds i true).getD j true).length + 1 = (l.filter fun j => !listed.getD j true).length := by
    intro l
    induction l with
    | nil => intro _ h; cases h
    | cons x l ih =>
      intro hn hm
      rw [List.nodup_cons] at hn
      by_cases hx : x = i
      · subst hx
        have e1 : (listed.setIfInBounds x true).getD x true = true := by simp [hs, hi]
        have e2 : (l.filter fun j => !(listed.setIfInBounds x true).getD j true) = l.filter fun j => !listed.getD j true := by
          apply List.filter_congr
          intro j hj
          rw [getD_set_ne true (fun e => hn.1 (by rw [e]; exact hj))]
        rw [List.filter_cons, e1, List.filter_cons, h, e2]
        simp
      · have hm' : i ∈ l := by
          rcases List.mem_cons.1 hm with e | e
          · exact absurd e.symm hx
          · exact e
        rw [List.filter_cons, List.filter_cons, getD_set_ne true (fun e => hx e.symm)]
        cases listed.getD x true
        · simp only [Bool.not_false, if_true, List.length_cons]
          have := ih hn.2 hm'
          omega
        · simp only [Bool.not_true, Bool.false_eq_true, if_false]
          exact ih hn.2 hm'
  exact key _ List.nodup_range (List.mem_range.2 hi)

theorem toCome_zero {m : Nat} {listed : Array Bool} (hs : listed.size = m) (h : toCome m listed = 0) (i : Nat) (hi : i < m) : listed.getD i false = true := by
  unfold toCome at h
  have h' := List.eq_nil_of_length_eq_zero h
  rw [List.filter_eq_nil_iff] at h'
  have := h' i (List.mem_range.2 hi)
  have e : listed.getD i true = true := by simpa using this
  have hlt : i < listed.size := by omega
  simp [hlt] at e ⊢
  exact e

theorem region_fixed {F : Fence} {n : Nat} {P : Program} {id : Nat} {ops : Array Oper} {Q : Exit → Act → World → Prop} {a0 : Act} {w0 : World} (hm : P.follows .mixedOrders = true)
    (hdep : ∀ (i : Nat) (o : Oper), ops[i]? = some o → ∀ e ∈ o.after, e.on < i) (Adm : Array Bool → Act → World → Prop)
    (h0 : Adm (Array.replicate ops.size false) a0 w0.drew)
    (hstep : ∀ listed a w (i : Nat) (o : Oper), listed.size = ops.size → Adm listed a w → ops[i]? = some o → listed.getD i true = false → (∀ e ∈ o.after, Region.binds .any e = true → listed.getD e.on false = true) →
      wpOpIn F n P ops Q i (fun a' w' => Adm (listed.setIfInBounds i true) a' w') a w)
    (hend : ∀ listed a w, listed.size = ops.size → Adm listed a w → (∀ i, i < ops.size → listed.getD i false = true) → Q .normal a w) :
    (Code.region id ops true).wpIn F n P Q a0 w0 := by
  refine wpIn_region_any hm ?_
  have noReady : ∀ listed : Array Bool, listed.size = ops.size → Region.ready .any ops listed = [] → ∀ i, i < ops.size → listed.getD i false = true := by
    intro listed hs hr i
    induction i using Nat.strongRecOn with
    | ind i ih =>
      intro hi
      cases hx : listed.getD i false
      · exfalso
        have hlt : i < listed.size := by omega
        have hx' : listed.getD i true = false := by simp [hlt] at hx ⊢; exact hx
        obtain ⟨o, ho⟩ : ∃ o, ops[i]? = some o := ⟨_, Array.getElem?_eq_getElem hi⟩
        have : i ∈ Region.ready .any ops listed := mem_ready.2 ⟨hx', o, ho, fun e he _ => by
          have := hdep i o ho e he
          exact ih e.on this (by omega)⟩
        rw [hr] at this
        cases this
      · rfl
  have main : ∀ (fuel : Nat) (listed : Array Bool) (a : Act) (w : World), listed.size = ops.size → toCome ops.size listed = fuel → Adm listed a w → wpAnyIn F n P .any ops Q fuel listed a w := by
    intro fuel
    induction fuel with
    | zero =>
      intro listed a w hs ht hA
      have hall := toCome_zero hs ht
      refine ⟨?_, hend listed a w hs hA hall⟩
      rw [List.eq_nil_iff_forall_not_mem]
      intro i hi
      obtain ⟨h1, o, ho, _⟩ := mem_ready.1 hi
      have hlt := (Array.getElem?_eq_some_iff.1 ho).1
      have h2 := hall i hlt
      have hlt' : i < listed.size := by omega
      simp [hlt'] at h1 h2
      rw [h1] at h2
      cases h2
    | succ fuel ih =>
      intro listed a w hs ht hA
      refine ⟨fun hr => hend listed a w hs hA (noReady listed hs hr), fun i hi => ?_⟩
      obtain ⟨h1, o, ho, hd⟩ := mem_ready.1 hi
      have hlt := (Array.getElem?_eq_some_iff.1 ho).1
      have h2 := toCome_set hlt hs h1
      exact wpOpIn_mono (fun a' w' h => ih _ a' w' (by simpa using hs) (by omega) h) (hstep listed a w i o hs hA ho h1 hd)
  refine main _ _ _ _ (by simp) ?_ h0
  unfold toCome
  rw [List.filter_eq_self.2]
  · simp
  · intro i hi
    have := List.mem_range.1 hi
    simp [this]

/-- Each operation stands behind those that it waits for. -/
def inRow (ops : Array Oper) : Bool := (List.range ops.size).all fun i => match ops[i]? with | some o => o.after.toList.all fun e => decide (e.on < i) | none => true
theorem inRow_spec {ops : Array Oper} (h : inRow ops = true) : ∀ (i : Nat) (o : Oper), ops[i]? = some o → ∀ e ∈ o.after, e.on < i := by
  intro i o ho e he
  have hlt := (Array.getElem?_eq_some_iff.1 ho).1
  have := (List.all_eq_true.1 h) i (List.mem_range.2 hlt)
  rw [ho] at this
  have := (List.all_eq_true.1 this) e (by simpa using he)
  simpa using this

/-- The operation is done. -/
def did (b : Nat → Bool) (i : Nat) : Nat → Bool := fun j => if j = i then true else b j

/-- The same, by which operations are done. -/
theorem region_done {F : Fence} {n : Nat} {P : Program} {id : Nat} {ops : Array Oper} {Q : Exit → Act → World → Prop} {a0 : Act} {w0 : World} (hm : P.follows .mixedOrders = true)
    (hdep : inRow ops = true) (Adm : (Nat → Bool) → Act → World → Prop)
    (h0 : Adm (fun _ => false) a0 w0.drew)
    (hstep : ∀ b a w (i : Nat) (o : Oper), Adm b a w → (∀ (j : Nat) (u : Oper), ops[j]? = some u → b j = true → ∀ e ∈ u.after.toList, Region.binds .any e = true → b e.on = true) → ops[i]? = some o → b i = false →
      (∀ e ∈ o.after.toList, Region.binds .any e = true → b e.on = true) → wpOpIn F n P ops Q i (fun a' w' => Adm (did b i) a' w') a w)
    (hend : ∀ b a w, Adm b a w → (∀ i, i < ops.size → b i = true) → Q .normal a w) :
    (Code.region id ops true).wpIn F n P Q a0 w0 := by
  refine region_fixed hm (inRow_spec hdep) (fun ls a w => Adm (fun j => ls.getD j false) a w ∧ ∀ (j : Nat) (u : Oper), ops[j]? = some u → ls.getD j false = true → ∀ e ∈ u.after.toList, Region.binds .any e = true → ls.getD e.on false = true) ?_ ?_ ?_
  · have e : (fun j => (Array.replicate ops.size false).getD j false) = fun _ => false := by
      funext j
      by_cases hj : j < ops.size <;> simp [hj]
    refine ⟨by rw [e]; exact h0, fun j u _ hj => ?_⟩
    have ej : (Array.replicate ops.size false).getD j false = false := congrFun e j
    rw [ej] at hj
    cases hj
  · rintro ls a w i o hs ⟨hA, hcl⟩ ho hl hd
    have hlt := (Array.getElem?_eq_some_iff.1 ho).1
    have hb : ls.getD i false = false := by
      have : i < ls.size := by omega
      simp [this] at hl ⊢; exact hl
    refine wpOpIn_mono (fun a' w' h => ?_) (hstep _ a w i o hA hcl ho hb (fun e he => hd e (by simpa using he)))
    have e : (fun j => (ls.setIfInBounds i true).getD j false) = did (fun j => ls.getD j false) i := by
      funext j
      unfold did
      by_cases hj : j = i
      · subst hj
        have : j < ls.size := by omega
        simp [this]
      · rw [if_neg hj, getD_set_ne false (fun e => hj e.symm)]
    refine ⟨by rw [e]; exact h, fun j u hu hj x hx hbx => ?_⟩
    have ej := congrFun e j
    have ex := congrFun e x.on
    simp only [did] at ej ex
    rw [ej] at hj
    rw [ex]
    by_cases hxi : x.on = i
    · rw [if_pos hxi]
    · rw [if_neg hxi]
      by_cases hji : j = i
      · subst hji
        rw [ho] at hu
        cases hu
        exact hd x (by simpa using hx) hbx
      · rw [if_neg hji] at hj
        exact hcl j u hu hj x hx hbx
  · rintro ls a w hs ⟨hA, _⟩ hall
    exact hend _ a w hA hall

section
variable {l n : Nat} {P : Program} {ops : Array Oper} {Q : Exit → Act → World → Prop} {i : Nat} {o : Oper} {K : Act → World → Prop} {a : Act} {w w' : World}
theorem op_value {v : Value} (ho : ops[i]? = some o) (hg : o.guard = none) (hnd : ∀ c, o.op ≠ .defer c) (hrun : (execOp a.eval o).run P w = .ok (.value v) w') (hK : K (a.put o.dst v) w') :
    wpOpIn (Fence.wide.inRound l) n P ops Q i K a w := by
  unfold wpOpIn
  simp only [ho, Region.wanted, hg, if_true]
  refine ⟨fun _ _ => trivial, ?_⟩
  rw [Oper.semAt_plain _ _ _ hnd, hrun]
  exact hK
theorem op_skip (ho : ops[i]? = some o) (hg : o.guard = none) (hnd : ∀ c, o.op ≠ .defer c) (hrun : (execOp a.eval o).run P w = .ok .skip w') (hK : K (a.put o.dst undef) w') :
    wpOpIn (Fence.wide.inRound l) n P ops Q i K a w := by
  unfold wpOpIn
  simp only [ho, Region.wanted, hg, if_true]
  refine ⟨fun _ _ => trivial, ?_⟩
  rw [Oper.semAt_plain _ _ _ hnd, hrun]
  exact hK
theorem op_enter {f : FuncId} {args : Array Value} (ho : ops[i]? = some o) (hg : o.guard = none) (hnd : ∀ c, o.op ≠ .defer c) (hrun : (execOp a.eval o).run P w = .ok (.enter f args) w')
    (hc : Calls P f args w' fun e w'' => ∃ v, e = .returned v ∧ K (a.put o.dst v) w'') :
    wpOpIn (Fence.wide.inRound l) n P ops Q i K a w := by
  unfold wpOpIn
  simp only [ho, Region.wanted, hg, if_true]
  refine ⟨fun _ _ => trivial, ?_⟩
  rw [Oper.semAt_plain _ _ _ hnd, hrun]
  refine ⟨fun h => by simp [Fence.wide, Fence.inRound] at h, ?_⟩
  refine CallsIn.inRound l (callsIn_wide.2 (hc.mono ?_))
  rintro e w'' ⟨v, rfl, hK⟩
  exact hK
end

end Go.Proofs.YtphedokdckoccaaGreatDoor
