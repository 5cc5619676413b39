import Derived.Test.YthhakekbffembaaGreatDoorKNcmp
import Derived.WalkKit
import Derived.OrdersIn
import Derived.CallsIn
import Derived.ControlIn
import Derived.TacticsInMore
import Derived.OwnWalkIn
import Derived.RangeFuncCalls

namespace Go.Proofs.YthhakekbffembaaGreatDoor
open Go.RowKit
def toCome (m : Nat) (listed : Array Bool) : Nat := ((List.range m).filter fun i => !listed.getD i true).length
theorem toCome_set {m : Nat} {listed : Array Bool} {i : Nat} (hi : i < m) (hs : listed.size = m) (h : listed.getD i true = false) : toCome m (listed.setIfInBounds i true) + 1 = toCome m listed := by
 unfold toCome
 have key : ∀ l : List Nat, l.Nodup → i ∈ l → (l.filter fun j => !(listed.setIfInBounds i true).getD j true).length + 1 = (l.filter fun j => !listed.getD j true).length := by
   intro l
   induction l with
   | nil => intro _ h; cases h
   | cons x l ih =>
     intro hn hm
     rw [List.nodup_cons] at hn
     by_cases hx : x = i
     · subst hx
       have e1 : (listed.setIfInBounds x true).getD x true = true := by simp [hs, hi]
       have e2 : (l.filter fun j => !(listed.setIfInBounds x true).getD j true) = l.filter fun j => !listed.getD j true := by
         apply List.filter_congr
         intro j hj
         rw [getD_set_ne true (fun e => hn.1 (by rw [e]; exact hj))]
       rw [List.filter_cons, e1, List.filter_cons, h, e2]
       simp
     · have hm' : i ∈ l := by
         rcases List.mem_cons.1 hm with e | e
         · exact absurd e.symm hx
         · exact e
       rw [List.filter_cons, List.filter_cons, getD_set_ne true (fun e => hx e.symm)]
       cases listed.getD x true
       · simp only [Bool.not_false, if_true, List.length_cons]
         have := ih hn.2 hm'
         omega
       · simp only [Bool.not_true, Bool.false_eq_true, if_false]
         exact ih hn.2 hm'
 exact key _ List.nodup_range (List.mem_range.2 hi)
theorem toCome_zero {m : Nat} {listed : Array Bool} (hs : listed.size = m) (h : toCome m listed = 0) (i : Nat) (hi : i < m) : listed.getD i false = true := by
 unfold toCome at h
 have h' := List.eq_nil_of_length_eq_zero h
 rw [List.filter_eq_nil_iff] at h'
 have := h' i (List.mem_range.2 hi)
 have e : listed.getD i true = true := by simpa using this
 have hlt : i < listed.size := by omega
 simp [hlt] at e ⊢
 exact e
theorem region_fixed {F : Fence} {n : Nat} {P : Program} {id : Nat} {ops : Array Oper} {Q : Exit → Act → World → Prop} {a0 : Act} {w0 : World} (hm : P.follows .mixedOrders = true) (hdep : ∀ (i : Nat) (o : Oper), ops[i]? = some o → ∀ e ∈ o.after, Region.binds .any e = true → e.on < i) (Adm : Array Bool → Act → World → Prop) (h0 : Adm (Array.replicate ops.size false) a0 w0.drew) (hstep : ∀ listed a w (i : Nat) (o : Oper), listed.size = ops.size → Adm listed a w → ops[i]? = some o → listed.getD i true = false → (∀ e ∈ o.after, Region.binds .any e = true → listed.getD e.on false = true) →
     wpOpIn F n P ops Q i (fun a' w' => Adm (listed.setIfInBounds i true) a' w') a w) (hend : ∀ listed a w, listed.size = ops.size → Adm listed a w → (∀ i, i < ops.size → listed.getD i false = true) → Q .normal a w) :
   (Code.region id ops true).wpIn F n P Q a0 w0 := by
 refine wpIn_region_any hm ?_
 have noReady : ∀ listed : Array Bool, listed.size = ops.size → Region.ready .any ops listed = [] → ∀ i, i < ops.size → listed.getD i false = true := by
   intro listed hs hr i
   induction i using Nat.strongRecOn with
   | ind i ih =>
     intro hi
     cases hx : listed.getD i false
     · exfalso
       have hlt : i < listed.size := by omega
       have hx' : listed.getD i true = false := by simp [hlt] at hx ⊢; exact hx
       obtain ⟨o, ho⟩ : ∃ o, ops[i]? = some o := ⟨_, Array.getElem?_eq_getElem hi⟩
       have : i ∈ Region.ready .any ops listed := mem_ready.2 ⟨hx', o, ho, fun e he hbd => by
         have := hdep i o ho e he hbd
         exact ih e.on this (by omega)⟩
       rw [hr] at this
       cases this
     · rfl
 have main : ∀ (fuel : Nat) (listed : Array Bool) (a : Act) (w : World), listed.size = ops.size → toCome ops.size listed = fuel → Adm listed a w → wpAnyIn F n P .any ops Q fuel listed a w := by
   intro fuel
   induction fuel with
   | zero =>
     intro listed a w hs ht hA
     have hall := toCome_zero hs ht
     refine ⟨?_, hend listed a w hs hA hall⟩
     rw [List.eq_nil_iff_forall_not_mem]
     intro i hi
     obtain ⟨h1, o, ho, _⟩ := mem_ready.1 hi
     have hlt := (Array.getElem?_eq_some_iff.1 ho).1
     have h2 := hall i hlt
     have hlt' : i < listed.size := by omega
     simp [hlt'] at h1 h2
     rw [h1] at h2
     cases h2
   | succ fuel ih =>
     intro listed a w hs ht hA
     refine ⟨fun hr => hend listed a w hs hA (noReady listed hs hr), fun i hi => ?_⟩
     obtain ⟨h1, o, ho, hd⟩ := mem_ready.1 hi
     have hlt := (Array.getElem?_eq_some_iff.1 ho).1
     have h2 := toCome_set hlt hs h1
     exact wpOpIn_mono (fun a' w' h => ih _ a' w' (by simpa using hs) (by omega) h) (hstep listed a w i o hs hA ho h1 hd)
 refine main _ _ _ _ (by simp) ?_ h0
 unfold toCome
 rw [List.filter_eq_self.2]
 · simp
 · intro i hi
   have := List.mem_range.1 hi
   simp [this]
def inRow (ops : Array Oper) : Bool := (List.range ops.size).all fun i => match ops[i]? with | some o => o.after.toList.all fun e => !Region.binds .any e || decide (e.on < i) | none => true
theorem inRow_spec {ops : Array Oper} (h : inRow ops = true) : ∀ (i : Nat) (o : Oper), ops[i]? = some o → ∀ e ∈ o.after, Region.binds .any e = true → e.on < i := by
 intro i o ho e he hbd
 have hlt := (Array.getElem?_eq_some_iff.1 ho).1
 have := (List.all_eq_true.1 h) i (List.mem_range.2 hlt)
 rw [ho] at this
 have := (List.all_eq_true.1 this) e (by simpa using he)
 simpa [hbd] using this
def did (b : Nat → Bool) (i : Nat) : Nat → Bool := fun j => if j = i then true else b j
theorem region_done {F : Fence} {n : Nat} {P : Program} {id : Nat} {ops : Array Oper} {Q : Exit → Act → World → Prop} {a0 : Act} {w0 : World} (hm : P.follows .mixedOrders = true) (hdep : inRow ops = true) (Adm : (Nat → Bool) → Act → World → Prop) (h0 : Adm (fun _ => false) a0 w0.drew) (hstep : ∀ b a w (i : Nat) (o : Oper), Adm b a w → (∀ (j : Nat) (u : Oper), ops[j]? = some u → b j = true → ∀ e ∈ u.after.toList, Region.binds .any e = true → b e.on = true) → ops[i]? = some o → b i = false →
     (∀ e ∈ o.after.toList, Region.binds .any e = true → b e.on = true) → wpOpIn F n P ops Q i (fun a' w' => Adm (did b i) a' w') a w) (hend : ∀ b a w, Adm b a w → (∀ i, i < ops.size → b i = true) → Q .normal a w) :
   (Code.region id ops true).wpIn F n P Q a0 w0 := by
 refine region_fixed hm (inRow_spec hdep) (fun ls a w => Adm (fun j => ls.getD j false) a w ∧ ∀ (j : Nat) (u : Oper), ops[j]? = some u → ls.getD j false = true → ∀ e ∈ u.after.toList, Region.binds .any e = true → ls.getD e.on false = true) ?_ ?_ ?_
 · have e : (fun j => (Array.replicate ops.size false).getD j false) = fun _ => false := by
     funext j
     by_cases hj : j < ops.size <;> simp [hj]
   refine ⟨by rw [e]; exact h0, fun j u _ hj => ?_⟩
   have ej : (Array.replicate ops.size false).getD j false = false := congrFun e j
   rw [ej] at hj
   cases hj
 · rintro ls a w i o hs ⟨hA, hcl⟩ ho hl hd
   have hlt := (Array.getElem?_eq_some_iff.1 ho).1
   have hb : ls.getD i false = false := by
     have : i < ls.size := by omega
     simp [this] at hl ⊢; exact hl
   refine wpOpIn_mono (fun a' w' h => ?_) (hstep _ a w i o hA hcl ho hb (fun e he => hd e (by simpa using he)))
   have e : (fun j => (ls.setIfInBounds i true).getD j false) = did (fun j => ls.getD j false) i := by
     funext j
     unfold did
     by_cases hj : j = i
     · subst hj
       have : j < ls.size := by omega
       simp [this]
     · rw [if_neg hj, getD_set_ne false (fun e => hj e.symm)]
   refine ⟨by rw [e]; exact h, fun j u hu hj x hx hbx => ?_⟩
   have ej := congrFun e j
   have ex := congrFun e x.on
   simp only [did] at ej ex
   rw [ej] at hj
   rw [ex]
   by_cases hxi : x.on = i
   · rw [if_pos hxi]
   · rw [if_neg hxi]
     by_cases hji : j = i
     · subst hji
       rw [ho] at hu
       cases hu
       exact hd x (by simpa using hx) hbx
     · rw [if_neg hji] at hj
       exact hcl j u hu hj x hx hbx
 · rintro ls a w hs ⟨hA, _⟩ hall
   exact hend _ a w hA hall
section
variable {l n : Nat} {P : Program} {ops : Array Oper} {Q : Exit → Act → World → Prop} {i : Nat} {o : Oper} {K : Act → World → Prop} {a : Act} {w w' : World}
end
end Go.Proofs.YthhakekbffembaaGreatDoor
namespace Go.Proofs.YthhakekbffembaaGreatDoor
open Go.RowKit
section
variable {n : Nat} {P : Program} {ops : Array Oper} {Q : Exit → Act → World → Prop} {i : Nat} {o : Oper} {K : Act → World → Prop} {a : Act} {w w' : World}
end
end Go.Proofs.YthhakekbffembaaGreatDoor
namespace Go.Proofs.YthhakekbffembaaGreatDoor
open Go.RowKit
def slotOf (ops : Array Oper) (k : Nat) : Option Tmp := (ops[k]?).bind (·.dst)
def lay (base : Array Value) (ops : Array Oper) (val : Nat → Value) (b : Nat → Bool) : Nat → Array Value
 | 0 => base
 | k + 1 => match slotOf ops k with
   | some s => if b k = true then (lay base ops val b k).setIfInBounds s (val k) else lay base ops val b k
   | none => lay base ops val b k
def apartB (ops : Array Oper) (m : Nat) : Bool := (List.range ops.size).all fun i => match slotOf ops i with
 | some s => decide (s < m) && (List.range ops.size).all fun j => j == i || slotOf ops j != some s
 | none => true
theorem apart_lt {ops : Array Oper} {m i s : Nat} (h : apartB ops m = true) (hi : slotOf ops i = some s) : s < m ∧ ∀ j, j ≠ i → slotOf ops j ≠ some s := by
 have hlt : i < ops.size := by
   by_cases hx : i < ops.size
   · exact hx
   · unfold slotOf at hi
     rw [Array.getElem?_eq_none (by omega)] at hi
     cases hi
 have := (List.all_eq_true.1 h) i (List.mem_range.2 hlt)
 rw [hi] at this
 simp only [Bool.and_eq_true, decide_eq_true_eq] at this
 refine ⟨this.1, fun j hj e => ?_⟩
 have hjlt : j < ops.size := by
   by_cases hx : j < ops.size
   · exact hx
   · unfold slotOf at e
     rw [Array.getElem?_eq_none (by omega)] at e
     cases e
 have := (List.all_eq_true.1 this.2) j (List.mem_range.2 hjlt)
 simp [hj, e] at this
section
variable {base : Array Value} {ops : Array Oper} {val : Nat → Value} {b : Nat → Bool}
theorem lay_size (n : Nat) : (lay base ops val b n).size = base.size := by
 induction n with
 | zero => rfl
 | succ k ih =>
   unfold lay
   split
   · split
     · simpa using ih
     · exact ih
   · exact ih
theorem lay_out (n : Nat) {s : Nat} (h : ∀ j, slotOf ops j ≠ some s) : (lay base ops val b n)[s]? = base[s]? := by
 induction n with
 | zero => rfl
 | succ k ih =>
   unfold lay
   split
   · rename_i t ht
     split
     · rw [Array.getElem?_setIfInBounds_ne (fun e => h k (by rw [ht, e]))]; exact ih
     · exact ih
   · exact ih
theorem lay_in (n : Nat) {i s : Nat} (hi : slotOf ops i = some s) (hn : i < n) (hs : s < base.size) (ha : ∀ j, j ≠ i → slotOf ops j ≠ some s) (hb : b i = true) : (lay base ops val b n)[s]? = some (val i) := by
 induction n with
 | zero => omega
 | succ k ih =>
   by_cases hk : k = i
   · subst hk
     unfold lay
     simp only [hi, hb, if_true]
     rw [Array.getElem?_setIfInBounds_self_of_lt (by rw [lay_size]; exact hs)]
   · unfold lay
     split
     · rename_i t ht
       split
       · rw [Array.getElem?_setIfInBounds_ne (fun e => ha k hk (by rw [ht, e]))]; exact ih (by omega)
       · exact ih (by omega)
     · exact ih (by omega)
theorem lay_did (n : Nat) {i s : Nat} (hi : slotOf ops i = some s) (hn : i < n) (ha : ∀ j, j ≠ i → slotOf ops j ≠ some s) (hb : b i = false) :
   lay base ops val (did b i) n = (lay base ops val b n).setIfInBounds s (val i) := by
 have low : ∀ k, k ≤ i → lay base ops val (did b i) k = lay base ops val b k := by
   intro k
   induction k with
   | zero => intro _; rfl
   | succ k ih =>
     intro hk
     unfold lay
     rw [ih (by omega)]
     have : did b i k = b k := by unfold did; rw [if_neg (by omega)]
     rw [this]
 induction n with
 | zero => omega
 | succ k ih =>
   by_cases hk : k = i
   · subst hk
     unfold lay
     rw [low k (Nat.le_refl _)]
     simp [hi, did, hb]
   · have hd : did b i k = b k := by unfold did; rw [if_neg hk]
     unfold lay
     rw [ih (by omega), hd]
     split
     · rename_i t ht
       split
       · apply Array.ext_getElem?
         intro x
         have hst : t ≠ s := fun e => ha k hk (by rw [ht, e])
         simp only [Array.getElem?_setIfInBounds, Array.size_setIfInBounds]
         by_cases h1 : t = x
         · have h2 : ¬ s = x := fun e => hst (h1.trans e.symm)
           simp [h1, h2]
         · simp [h1]
       · rfl
     · rfl
theorem lay_none (n : Nat) {i : Nat} (hi : slotOf ops i = none) : lay base ops val (did b i) n = lay base ops val b n := by
 induction n with
 | zero => rfl
 | succ k ih =>
   unfold lay
   rw [ih]
   by_cases hk : k = i
   · subst hk; simp [hi]
   · have hd : did b i k = b k := by unfold did; rw [if_neg hk]
     rw [hd]
end
theorem lay_eval {base : Array Value} {ops : Array Oper} {val : Nat → Value} {b : Nat → Bool} {d : List Deferred} {m : Nat} (hsz : base.size = m) (hap : apartB ops m = true) (j s : Nat) (hs : slotOf ops j = some s) (hb : b j = true) :
   Act.eval ⟨lay base ops val b ops.size, d⟩ (.tmp s) = val j := by
 subst hsz
 obtain ⟨h1, h2⟩ := apart_lt hap hs
 have hlt : j < ops.size := by
   by_cases hx : j < ops.size
   · exact hx
   · unfold slotOf at hs
     rw [Array.getElem?_eq_none (by omega)] at hs
     cases hs
 have := lay_in (val := val) ops.size hs hlt h1 h2 hb
 show (lay base ops val b ops.size).getD s undef = _
 rw [Array.getD_eq_getD_getElem?, this]
 rfl
def noneB (ops : Array Oper) (s : Nat) : Bool := (List.range ops.size).all fun i => slotOf ops i != some s
theorem lay_keep {base : Array Value} {ops : Array Oper} {val : Nat → Value} {b : Nat → Bool} {d : List Deferred} (s : Nat) (h : noneB ops s = true) :
   Act.eval ⟨lay base ops val b ops.size, d⟩ (.tmp s) = base.getD s undef := by
 have h' : ∀ j, slotOf ops j ≠ some s := by
   intro j e
   have hlt : j < ops.size := by
     by_cases hx : j < ops.size
     · exact hx
     · unfold slotOf at e
       rw [Array.getElem?_eq_none (by omega)] at e
       cases e
   have := (List.all_eq_true.1 h) j (List.mem_range.2 hlt)
   simp [e] at this
 show (lay base ops val b ops.size).getD s undef = _
 rw [Array.getD_eq_getD_getElem?, lay_out ops.size h', Array.getD_eq_getD_getElem?]
theorem lay_till {base : Array Value} {ops : Array Oper} {val : Nat → Value} {b : Nat → Bool} {s : Nat} (h : ∀ j, slotOf ops j = some s → b j = false) : ∀ n, (lay base ops val b n)[s]? = base[s]?
 | 0 => rfl
 | k + 1 => by
   unfold lay
   split
   · rename_i t ht
     split
     · rename_i hb
       have hne : t ≠ s := by
         intro e
         subst e
         rw [h k ht] at hb
         cases hb
       rw [Array.getElem?_setIfInBounds, if_neg hne]
       exact lay_till h k
     · exact lay_till h k
   · exact lay_till h k
theorem none_till {ops : Array Oper} {s : Nat} {b : Nat → Bool} (h : noneB ops s = true) : ∀ i, slotOf ops i = some s → b i = false := by
 intro i e
 have hlt : i < ops.size := by
   by_cases hx : i < ops.size
   · exact hx
   · unfold slotOf at e
     rw [Array.getElem?_eq_none (by omega)] at e
     cases e
 have := (List.all_eq_true.1 h) i (List.mem_range.2 hlt)
 simp [e] at this
theorem lay_yield {base : Array Value} {ops : Array Oper} {val : Nat → Value} {b : Nat → Bool} {m : Nat} (hsz : base.size = m) (hap : apartB ops m = true) (j s : Nat) (x : Bool) (hs : slotOf ops j = some s) (hb : b j = true) (hv : val j = .bool x) :
   yielded ops (lay base ops val b ops.size) j = some x := by
 subst hsz
 obtain ⟨h1, h2⟩ := apart_lt hap hs
 have hlt : j < ops.size := by
   by_cases hx : j < ops.size
   · exact hx
   · unfold slotOf at hs
     rw [Array.getElem?_eq_none (by omega)] at hs
     cases hs
 have := lay_in (val := val) ops.size hs hlt h1 h2 hb
 unfold yielded
 have e : (ops[j]?).bind (·.dst) = some s := hs
 rw [e, Option.bind_some, this, hv]
def vals (L : List (Option Tmp × Value)) (k : Nat) : Value := (L.getD k (none, undef)).2
def putAll (base : Array Value) : List (Option Tmp × Value) → Array Value
 | [] => base
 | (some s, v) :: r => putAll (base.setIfInBounds s v) r
 | (none, _) :: r => putAll base r
theorem putAll_snoc (L : List (Option Tmp × Value)) (x : Option Tmp × Value) : ∀ base, putAll base (L ++ [x]) = match x with | (some s, v) => (putAll base L).setIfInBounds s v | (none, _) => putAll base L := by
 induction L with
 | nil => intro base; obtain ⟨s, v⟩ := x; cases s <;> rfl
 | cons y L ih =>
   intro base
   obtain ⟨s, v⟩ := y
   cases s
   · exact ih base
   · exact ih _
theorem lay_all {base : Array Value} {ops : Array Oper} {L : List (Option Tmp × Value)} (hL : L.map (·.1) = ops.toList.map (·.dst)) : lay base ops (vals L) (fun _ => true) ops.size = putAll base L := by
 have hlen : L.length = ops.size := by
   have := congrArg List.length hL
   simpa using this
 have key : ∀ n, n ≤ ops.size → lay base ops (vals L) (fun _ => true) n = putAll base (L.take n) := by
   intro n
   induction n with
   | zero => intro _; rfl
   | succ k ih =>
     intro hk
     have hkL : k < L.length := by omega
     have hsl : slotOf ops k = (L[k]).1 := by
       have h1 : (L.map (·.1))[k]? = (ops.toList.map (·.dst))[k]? := by rw [hL]
       rw [List.getElem?_map, List.getElem?_map, List.getElem?_eq_getElem hkL] at h1
       have h2 : ops.toList[k]? = ops[k]? := by simp
       rw [h2] at h1
       unfold slotOf
       rw [Array.getElem?_eq_getElem (by omega)] at h1 ⊢
       simpa using h1.symm
     have hv : vals L k = (L[k]).2 := by
       unfold vals
       rw [List.getD, List.getElem?_eq_getElem hkL]
       rfl
     rw [List.take_add_one, List.getElem?_eq_getElem hkL, Option.toList_some, putAll_snoc, ← ih (by omega)]
     have e : lay base ops (vals L) (fun _ => true) (k + 1) = match slotOf ops k with
       | some s => if true = true then (lay base ops (vals L) (fun _ => true) k).setIfInBounds s (vals L k) else lay base ops (vals L) (fun _ => true) k
       | none => lay base ops (vals L) (fun _ => true) k := rfl
     rw [e, hsl, hv]
     cases h : L[k] with
     | mk s v => cases s <;> simp
 rw [key _ (Nat.le_refl _), List.take_of_length_le (by omega)]
inductive Does (P : Program) (ops : Array Oper) (a : Act) (w : World) (o : Oper) (v : Value) (K : World → Prop) : Prop
 | value (w' : World) (hw : Region.wanted o (yielded ops a.tmps) = true) (hnd : ∀ c, o.op ≠ .defer c) (hrun : (execOp a.eval o).run P w = .ok (.value v) w') (hK : K w')
 | call (f : FuncId) (args : Array Value) (hw : Region.wanted o (yielded ops a.tmps) = true) (hnd : ∀ c, o.op ≠ .defer c) (hrun : (execOp a.eval o).run P w = .ok (.enter f args) w)
     (hc : Calls P f args w fun e w'' => e = .returned v ∧ K w'')
 | pass (hw : Region.wanted o (yielded ops a.tmps) = false) (hv : v = undef) (hK : K w)
section
variable {P : Program} {ops : Array Oper} {a : Act} {w w' : World} {o : Oper} {v : Value} {K : World → Prop}
theorem does_value (hg : o.guard = none) (hnd : ∀ c, o.op ≠ .defer c) (hrun : (execOp a.eval o).run P w = .ok (.value v) w') (hK : K w') : Does P ops a w o v K :=
 .value w' (by unfold Region.wanted; rw [hg]) hnd hrun hK
theorem does_value_g {j : Nat} {x : Bool} (hg : o.guard = some (j, x)) (hy : yielded ops a.tmps j = some x) (hnd : ∀ c, o.op ≠ .defer c) (hrun : (execOp a.eval o).run P w = .ok (.value v) w') (hK : K w') : Does P ops a w o v K :=
 .value w' (by unfold Region.wanted; rw [hg]; simp [hy]) hnd hrun hK
theorem does_call {f : FuncId} {args : Array Value} (hg : o.guard = none) (hnd : ∀ c, o.op ≠ .defer c) (hrun : (execOp a.eval o).run P w = .ok (.enter f args) w) (hc : Calls P f args w fun e w'' => e = .returned v ∧ K w'') : Does P ops a w o v K :=
 .call f args (by unfold Region.wanted; rw [hg]) hnd hrun hc
theorem does_call_g {j : Nat} {x : Bool} {f : FuncId} {args : Array Value} (hg : o.guard = some (j, x)) (hy : yielded ops a.tmps j = some x) (hnd : ∀ c, o.op ≠ .defer c) (hrun : (execOp a.eval o).run P w = .ok (.enter f args) w) (hc : Calls P f args w fun e w'' => e = .returned v ∧ K w'') : Does P ops a w o v K :=
 .call f args (by unfold Region.wanted; rw [hg]; simp [hy]) hnd hrun hc
theorem does_pass {j : Nat} {x y : Bool} (hg : o.guard = some (j, x)) (hy : yielded ops a.tmps j = some y) (hne : x ≠ y) (hv : v = undef) (hK : K w) : Does P ops a w o v K :=
 .pass (by unfold Region.wanted; rw [hg]; simp [hy]; exact fun e => hne e.symm) hv hK
theorem does_pass_none {j : Nat} {x : Bool} (hg : o.guard = some (j, x)) (hy : yielded ops a.tmps j = none) (hv : v = undef) (hK : K w) : Does P ops a w o v K :=
 .pass (by unfold Region.wanted; rw [hg]; simp [hy]) hv hK
end
theorem region_laid {P : Program} {id : Nat} {ops : Array Oper} {Q : Exit → Act → World → Prop} {base : Array Value} {d : List Deferred} {w0 : World} (hm : P.follows .mixedOrders = true) (hdep : inRow ops = true) (m : Nat) (hsz : base.size = m) (hap : apartB ops m = true) (L : List (Option Tmp × Value)) (hL : L.map (·.1) = ops.toList.map (·.dst)) (St : (Nat → Bool) → World → Prop) (h0 : St (fun _ => false) w0.drew) (hstep : ∀ b w (i : Nat) (o : Oper) (a : Act), St b w → (∀ (j : Nat) (u : Oper), ops[j]? = some u → b j = true → ∀ e ∈ u.after.toList, Region.binds .any e = true → b e.on = true) → ops[i]? = some o → b i = false →
     (∀ e ∈ o.after.toList, Region.binds .any e = true → b e.on = true) →
     (∀ j s, slotOf ops j = some s → b j = true → a.tmps[s]?.getD undef = vals L j) → (∀ s, noneB ops s = true → a.tmps[s]?.getD undef = base.getD s undef) → (∀ j s x, slotOf ops j = some s → b j = true → vals L j = .bool x → yielded ops a.tmps j = some x) →
     Does P ops a w o (vals L i) (St (did b i))) (hend : ∀ b w, St b w → (∀ i, i < ops.size → b i = true) → Q .normal ⟨putAll base L, d⟩ w) :
   (Code.region id ops true).wp P Q ⟨base, d⟩ w0 := by
 subst hsz
 rw [← lay_all hL] at hend
 refine (wpIn_wide (n := 6)).1 ?_
 refine region_done hm hdep (fun b a w => a = ⟨lay base ops (vals L) b ops.size, d⟩ ∧ St b w) ⟨?_, h0⟩ ?_ ?_
 · have : ∀ n, lay base ops (vals L) (fun _ => false) n = base := by
     intro n
     induction n with
     | zero => rfl
     | succ k ih => unfold lay; split <;> simp [ih]
   rw [this]
 · rintro b a w i o ⟨rfl, hS⟩ hcl ho hb hd
   have hlt := (Array.getElem?_eq_some_iff.1 ho).1
   have hput : ∀ w', St (did b i) w' → (Act.put ⟨lay base ops (vals L) b ops.size, d⟩ o.dst (vals L i)) = ⟨lay base ops (vals L) (did b i) ops.size, d⟩ ∧ St (did b i) w' := by
     intro w' h
     refine ⟨?_, h⟩
     cases hdst : o.dst with
     | none =>
       have hsl : slotOf ops i = none := by unfold slotOf; rw [ho]; exact hdst
       rw [lay_none ops.size hsl]
       rfl
     | some s =>
       have hsl : slotOf ops i = some s := by unfold slotOf; rw [ho]; exact hdst
       obtain ⟨_, h2⟩ := apart_lt hap hsl
       rw [lay_did ops.size hsl hlt h2 hb]
       rfl
   unfold wpOpIn
   rw [ho]
   cases hstep b w i o _ hS hcl ho hb hd (fun j s h1 h2 => by rw [← Array.getD_eq_getD_getElem?]; exact lay_eval (d := d) rfl hap j s h1 h2) (fun s h => by rw [← Array.getD_eq_getD_getElem?]; exact lay_keep (d := d) s h) (fun j s x h1 h2 h3 => lay_yield rfl hap j s x h1 h2 h3) with
   | value w' hw hnd hrun hK =>
     simp only [hw, if_true]
     refine ⟨fun _ _ => trivial, ?_⟩
     rw [Oper.semAt_plain _ _ _ hnd, hrun]
     exact hput _ hK
   | call f args hw hnd hrun hc =>
     simp only [hw, if_true]
     refine ⟨fun _ _ => trivial, ?_⟩
     rw [Oper.semAt_plain _ _ _ hnd, hrun]
     refine ⟨fun h => by simp [Fence.wide] at h, ?_⟩
     refine callsIn_wide.2 (hc.mono ?_)
     rintro e w'' ⟨rfl, hK⟩
     exact hput _ hK
   | pass hw hv hK =>
     simp only [hw, Bool.false_eq_true, if_false]
     refine ⟨fun _ _ => trivial, ?_⟩
     rw [← hv]
     exact hput _ hK
 · rintro b a w ⟨rfl, hS⟩ hall
   have e : lay base ops (vals L) b ops.size = lay base ops (vals L) (fun _ => true) ops.size := by
     have : ∀ n, n ≤ ops.size → lay base ops (vals L) b n = lay base ops (vals L) (fun _ => true) n := by
       intro n
       induction n with
       | zero => intro _; rfl
       | succ k ih => intro hk; unfold lay; rw [ih (by omega), hall k (by omega)]
     exact this _ (Nat.le_refl _)
   rw [e]
   exact hend b w hS hall
inductive Doesg (P : Program) (ops : Array Oper) (a : Act) (w : World) (o : Oper) (K : Value → World → Prop) : Prop
 | value (v : Value) (w' : World) (hw : Region.wanted o (yielded ops a.tmps) = true) (hnd : ∀ c, o.op ≠ .defer c) (hrun : (execOp a.eval o).run P w = .ok (.value v) w') (hK : K v w')
 | call (f : FuncId) (args : Array Value) (hw : Region.wanted o (yielded ops a.tmps) = true) (hnd : ∀ c, o.op ≠ .defer c) (hrun : (execOp a.eval o).run P w = .ok (.enter f args) w)
     (hc : Calls P f args w fun e w'' => ∃ v, e = .returned v ∧ K v w'')
 | skip (w' : World) (hw : Region.wanted o (yielded ops a.tmps) = true) (hnd : ∀ c, o.op ≠ .defer c) (hrun : (execOp a.eval o).run P w = .ok .skip w') (hK : K undef w')
 | pass (hw : Region.wanted o (yielded ops a.tmps) = false) (hK : K undef w)
section
variable {P : Program} {ops : Array Oper} {a : Act} {w w' : World} {o : Oper} {v : Value} {K : Value → World → Prop}
theorem doesg_value (hg : o.guard = none) (hnd : ∀ c, o.op ≠ .defer c) (hrun : (execOp a.eval o).run P w = .ok (.value v) w') (hK : K v w') : Doesg P ops a w o K :=
 .value v w' (by unfold Region.wanted; rw [hg]) hnd hrun hK
theorem doesg_skip (hg : o.guard = none) (hnd : ∀ c, o.op ≠ .defer c) (hrun : (execOp a.eval o).run P w = .ok .skip w') (hK : K undef w') : Doesg P ops a w o K :=
 .skip w' (by unfold Region.wanted; rw [hg]) hnd hrun hK
theorem doesg_call {f : FuncId} {args : Array Value} (hg : o.guard = none) (hnd : ∀ c, o.op ≠ .defer c) (hrun : (execOp a.eval o).run P w = .ok (.enter f args) w) (hc : Calls P f args w fun e w'' => ∃ v, e = .returned v ∧ K v w'') : Doesg P ops a w o K :=
 .call f args (by unfold Region.wanted; rw [hg]) hnd hrun hc
end
theorem lay_congr {base : Array Value} {ops : Array Oper} {val val' : Nat → Value} {b : Nat → Bool} (h : ∀ j, b j = true → val' j = val j) (n : Nat) : lay base ops val' b n = lay base ops val b n := by
 induction n with
 | zero => rfl
 | succ k ih =>
   unfold lay
   split
   · split
     · rename_i hb
       rw [ih, h k hb]
     · exact ih
   · exact ih
theorem region_laidg {P : Program} {id : Nat} {ops : Array Oper} {Q : Exit → Act → World → Prop} {base : Array Value} {d : List Deferred} {w0 : World} (hm : P.follows .mixedOrders = true) (hdep : inRow ops = true) (m : Nat) (hsz : base.size = m) (hap : apartB ops m = true) {G : Type} (g0 : G) (L : G → List (Option Tmp × Value)) (hL : ∀ g, (L g).map (·.1) = ops.toList.map (·.dst)) (St : G → (Nat → Bool) → World → Prop) (h0 : St g0 (fun _ => false) w0.drew) (hstep : ∀ g b w (i : Nat) (o : Oper) (a : Act), St g b w → (∀ (j : Nat) (u : Oper), ops[j]? = some u → b j = true → ∀ e ∈ u.after.toList, Region.binds .any e = true → b e.on = true) → ops[i]? = some o → b i = false →
     (∀ e ∈ o.after.toList, Region.binds .any e = true → b e.on = true) →
     (∀ j s, slotOf ops j = some s → b j = true → a.tmps[s]?.getD undef = vals (L g) j) → (∀ s, (∀ j, slotOf ops j = some s → b j = false) → a.tmps[s]?.getD undef = base.getD s undef) → (∀ j s x, slotOf ops j = some s → b j = true → vals (L g) j = .bool x → yielded ops a.tmps j = some x) →
     Doesg P ops a w o (fun v w' => ∃ g', (∀ j, b j = true → vals (L g') j = vals (L g) j) ∧ v = vals (L g') i ∧ St g' (did b i) w')) (hend : ∀ g b w, St g b w → (∀ i, i < ops.size → b i = true) → Q .normal ⟨putAll base (L g), d⟩ w) :
   (Code.region id ops true).wp P Q ⟨base, d⟩ w0 := by
 subst hsz
 refine (wpIn_wide (n := 6)).1 ?_
 refine region_done hm hdep (fun b a w => ∃ g, a = ⟨lay base ops (vals (L g)) b ops.size, d⟩ ∧ St g b w) ⟨g0, ?_, h0⟩ ?_ ?_
 · have : ∀ n, lay base ops (vals (L g0)) (fun _ => false) n = base := by
     intro n
     induction n with
     | zero => rfl
     | succ k ih => unfold lay; split <;> simp [ih]
   rw [this]
 · rintro b a w i o ⟨g, rfl, hS⟩ hcl ho hb hd
   have hlt := (Array.getElem?_eq_some_iff.1 ho).1
   have hput : ∀ v w', (∃ g', (∀ j, b j = true → vals (L g') j = vals (L g) j) ∧ v = vals (L g') i ∧ St g' (did b i) w') → ∃ g', (Act.put ⟨lay base ops (vals (L g)) b ops.size, d⟩ o.dst v) = ⟨lay base ops (vals (L g')) (did b i) ops.size, d⟩ ∧ St g' (did b i) w' := by
     rintro v w' ⟨g', hc, rfl, h⟩
     refine ⟨g', ?_, h⟩
     rw [← lay_congr hc]
     cases hdst : o.dst with
     | none =>
       have hsl : slotOf ops i = none := by unfold slotOf; rw [ho]; exact hdst
       rw [lay_none ops.size hsl]
       rfl
     | some s =>
       have hsl : slotOf ops i = some s := by unfold slotOf; rw [ho]; exact hdst
       obtain ⟨_, h2⟩ := apart_lt hap hsl
       rw [lay_did ops.size hsl hlt h2 hb]
       rfl
   unfold wpOpIn
   rw [ho]
   cases hstep g b w i o _ hS hcl ho hb hd (fun j s h1 h2 => by rw [← Array.getD_eq_getD_getElem?]; exact lay_eval (d := d) rfl hap j s h1 h2) (fun s h => by rw [lay_till h ops.size, Array.getD_eq_getD_getElem?]) (fun j s x h1 h2 h3 => lay_yield rfl hap j s x h1 h2 h3) with
   | value v w' hw hnd hrun hK =>
     simp only [hw, if_true]
     refine ⟨fun _ _ => trivial, ?_⟩
     rw [Oper.semAt_plain _ _ _ hnd, hrun]
     exact hput _ _ hK
   | call f args hw hnd hrun hc =>
     simp only [hw, if_true]
     refine ⟨fun _ _ => trivial, ?_⟩
     rw [Oper.semAt_plain _ _ _ hnd, hrun]
     refine ⟨fun h => by simp [Fence.wide] at h, ?_⟩
     refine callsIn_wide.2 (hc.mono ?_)
     rintro e w'' ⟨v, rfl, hK⟩
     exact hput _ _ hK
   | skip w' hw hnd hrun hK =>
     simp only [hw, if_true]
     refine ⟨fun _ _ => trivial, ?_⟩
     rw [Oper.semAt_plain _ _ _ hnd, hrun]
     exact hput _ _ hK
   | pass hw hK =>
     simp only [hw, Bool.false_eq_true, if_false]
     refine ⟨fun _ _ => trivial, ?_⟩
     exact hput _ _ hK
 · rintro b a w ⟨g, rfl, hS⟩ hall
   have e : lay base ops (vals (L g)) b ops.size = putAll base (L g) := by
     rw [← lay_all (hL g)]
     have : ∀ n, n ≤ ops.size → lay base ops (vals (L g)) b n = lay base ops (vals (L g)) (fun _ => true) n := by
       intro n
       induction n with
       | zero => intro _; rfl
       | succ k ih => intro hk; unfold lay; rw [ih (by omega), hall k (by omega)]
     exact this _ (Nat.le_refl _)
   rw [e]
   exact hend g b w hS hall
end Go.Proofs.YthhakekbffembaaGreatDoor
namespace Go.Proofs.YthhakekbffembaaGreatDoor
open Go.RowKit
theorem yielded_undef {ops : Array Oper} {tmps : Array Value} {j s : Nat} (hs : slotOf ops j = some s) (hv : tmps[s]?.getD undef = undef) : yielded ops tmps j = none := by
 unfold yielded
 have e : (ops[j]?).bind (·.dst) = some s := hs
 rw [e, Option.bind_some]
 cases h : tmps[s]? with
 | none => rfl
 | some v =>
   rw [h] at hv
   have hv' : v = undef := hv
   rw [hv']
   rfl
def regs (n : Nat) : Code → Option (Array Oper)
 | .region k ops _ => if k = n then some ops else none
 | .seq a b => match regs n a with | some x => some x | none => regs n b
 | .cond _ a b => match regs n a with | some x => some x | none => regs n b
 | .block _ b => regs n b
 | .loop b => regs n b
 | .scope b => regs n b
 | .rangeFunc _ _ a b => match regs n a with | some x => some x | none => regs n b
 | _ => none
end Go.Proofs.YthhakekbffembaaGreatDoor

namespace Go.Proofs.YthhakekbffembaaGreatDoor
open Go.RowKit

theorem hmx : Tryz.prog.follows .mixedOrders = true := by kernel_rfl
theorem qq {α : Type _} : (∀ (l : List α) (i : Nat), l.toArray[i]? = l[i]?) ∧ (∀ (a : α) (l : List α), (a :: l)[0]? = some a) ∧ (∀ (a : α) (l : List α) (i : Nat), (a :: l)[i + 1]? = l[i]?) ∧ ∀ a b : α, (some a = some b) = (a = b) := ⟨fun _ _ => List.getElem?_toArray, fun _ _ => List.getElem?_cons_zero, fun _ _ _ => List.getElem?_cons_succ, fun a b => Option.some.injEq a b⟩
theorem qA {α : Type _} (l : List α) (i : Nat) : l.toArray[i]? = l[i]? := List.getElem?_toArray
theorem qB {α : Type _} {a : α} {l : List α} : (a :: l)[0]? = some a := List.getElem?_cons_zero
theorem qC {α : Type _} {a : α} {l : List α} {i : Nat} : (a :: l)[i + 1]? = l[i]? := List.getElem?_cons_succ
theorem nF {x y : Bool} (h : x = true → y = true) (hy : y = false) : x = false := by cases x with
 | false => rfl
 | true => rw [h rfl] at hy; cases hy
theorem qL {w9 : World} {Q : Exit → Act → World → Prop} {base : Array Value} {dd : List Deferred} {L : List (Option Tmp × Value)} (_ : ∀ W, Below w9.heap.size w9 W → Q .normal ⟨putAll base L, dd⟩ W) : ∃ LL : List (Option Tmp × Value), LL = L := ⟨_, rfl⟩
theorem hD {o : Oper} {b : Nat → Bool} (hd : ∀ e ∈ o.after.toList, Region.binds .any e = true → b e.on = true) (k : Nat) (h : (⟨k, .data⟩ : Edge) ∈ o.after.toList := by simp) : b k = true := hd _ h rfl
theorem hG {o : Oper} {b : Nat → Bool} (hd : ∀ e ∈ o.after.toList, Region.binds .any e = true → b e.on = true) (k : Nat) (h : (⟨k, .guard⟩ : Edge) ∈ o.after.toList := by simp) : b k = true := hd _ h rfl
theorem dV {P : Program} {ops : Array Oper} {a : Act} {w w' : World} {o : Oper} {v : Value} {K : World → Prop} (hrun : (execOp a.eval o).run P w = .ok (.value v) w') (hK : K w') (hg : o.guard = none := by rfl) (hnd : ∀ c, o.op ≠ .defer c := by nofun) : Does P ops a w o v K := does_value hg hnd hrun hK
theorem dG {P : Program} {ops : Array Oper} {a : Act} {w w' : World} {o : Oper} {v : Value} {K : World → Prop} {j : Nat} {x : Bool} (hy : yielded ops a.tmps j = some x) (hrun : (execOp a.eval o).run P w = .ok (.value v) w') (hK : K w') (hg : o.guard = some (j, x) := by rfl) (hnd : ∀ c, o.op ≠ .defer c := by nofun) : Does P ops a w o v K := does_value_g hg hy hnd hrun hK
theorem vL {L LL : List (Option Tmp × Value)} {k : Nat} {v : Value} (h : LL = L) (e : vals L k = v) : vals LL k = v := by rw [h]; exact e
theorem sA {α : Type _} {l : List α} {i : Nat} {a : α} : l.toArray.setIfInBounds i a = (l.set i a).toArray := List.setIfInBounds_toArray l i a
theorem sB {α : Type _} {x a : α} {xs : List α} : (x :: xs).set 0 a = a :: xs := List.set_cons_zero
theorem sC {α : Type _} {x a : α} {xs : List α} {n : Nat} : (x :: xs).set (n + 1) a = x :: xs.set n a := List.set_cons_succ
theorem eD {ops : Array Oper} {o : Oper} {b : Nat → Bool} {a : Act} {L : List (Option Tmp × Value)} {v : Value} (ev : ∀ j s, slotOf ops j = some s → b j = true → a.tmps[s]?.getD undef = vals L j) (hd : ∀ e ∈ o.after.toList, Region.binds .any e = true → b e.on = true) (k : Nat) (s : Tmp) (h : vals L k = v) (hs : slotOf ops k = some s := by rfl) (hm : (⟨k, .data⟩ : Edge) ∈ o.after.toList := by simp) : a.tmps[s]?.getD undef = v := (ev k s hs (hd _ hm rfl)).trans h
theorem qD {α : Type _} {a b : α} : (some a = some b) = (a = b) := Option.some.injEq a b
end Go.Proofs.YthhakekbffembaaGreatDoor
