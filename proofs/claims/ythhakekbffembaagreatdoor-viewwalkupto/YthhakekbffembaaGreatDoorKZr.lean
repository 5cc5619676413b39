import Derived.Test.YthhakekbffembaaGreatDoorKNcmp
import Derived.OrdersIn
import Derived.CallsIn
import Derived.ControlIn
import Derived.TacticsInMore
import Derived.OwnWalkIn
import Derived.RangeFuncCalls

namespace Go.Proofs.YthhakekbffembaaGreatDoor
open Go.RowKit
def dhz (m:Nat) (listed:Array Bool):Nat:=((List.range m).filter λi=> !listed.getD i true).length
theorem hOz {m:Nat} {listed:Array Bool} {i:Nat} (hi:i<m) (hs:listed.size=m) (h:listed.getD i true=false):dhz m (listed.setIfInBounds i true)+1=dhz m listed:=by
 unfold dhz
 have key:∀l:List Nat,l.Nodup→i∈l→(l.filter λj=> !(listed.setIfInBounds i true).getD j true).length+1=(l.filter λj=> !listed.getD j true).length:=by
  intro l
  induction l with
  |nil=>intro _ h;cases h
  |cons x l ih=>
   intro hn hm
   rw[List.nodup_cons]at hn
   by_cases hx:x=i
   ·subst hx
    have e1:(listed.setIfInBounds x true).getD x true=true:=by simp[hs,hi]
    have e2:(l.filter λj=> !(listed.setIfInBounds x true).getD j true)=l.filter λj=> !listed.getD j true:=by
     apply List.filter_congr
     intro j hj
     rw[getD_set_ne true (λe=>hn.1 (by rw[e];exact hj))]
    rw[List.filter_cons,e1,List.filter_cons,h,e2]
    simp
   ·have hm':i∈l:=by
     rcases List.mem_cons.1 hm with e|e
     ·exact absurd e.symm hx
     ·exact e
    rw[List.filter_cons,List.filter_cons,getD_set_ne true (λe=>hx e.symm)]
    cases listed.getD x true
    ·simp only[Bool.not_false,if_true,List.length_cons]
     have:=ih hn.2 hm'
     omega
    ·simp only[Bool.not_true,Bool.false_eq_true,if_false]
     exact ih hn.2 hm'
 exact key _ List.nodup_range (List.mem_range.2 hi)
theorem gzz {m:Nat} {listed:Array Bool} (hs:listed.size=m) (h:dhz m listed=0) (i:Nat) (hi:i<m):listed.getD i false=true:=by
 unfold dhz at h
 have h':=List.eq_nil_of_length_eq_zero h
 rw[List.filter_eq_nil_iff]at h'
 have:=h' i (List.mem_range.2 hi)
 have e:listed.getD i true=true:=by simpa using this
 have hlt:i<listed.size:=by omega
 simp[hlt]at e⊢
 exact e
theorem gtz {F:Fence} {n:Nat} {P:Program} {id:Nat} {ops:Array Oper} {Q:Exit→Act→World→Prop} {a0:Act} {w0:World} (hm:P.follows .mixedOrders=true) (hdep:∀(i:Nat) (o:Oper),ops[i]? =some o→∀e∈o.after,Region.binds .any e=true→e.on<i) (Adm:Array Bool→Act→World→Prop) (h0:Adm (Array.replicate ops.size false) a0 w0.drew) (hstep:∀listed a w (i:Nat) (o:Oper),listed.size=ops.size→Adm listed a w→ops[i]? =some o→listed.getD i true=false→(∀e∈o.after,Region.binds .any e=true→listed.getD e.on false=true)→
     wpOpIn F n P ops Q i (λa' w'=>Adm (listed.setIfInBounds i true) a' w') a w) (hend:∀listed a w,listed.size=ops.size→Adm listed a w→(∀i,i<ops.size→listed.getD i false=true)→Q .normal a w):
   (Code.region id ops true).wpIn F n P Q a0 w0:=by
 refine wpIn_region_any hm ?_
 have noReady:∀listed:Array Bool,listed.size=ops.size→Region.ready .any ops listed=[]→∀i,i<ops.size→listed.getD i false=true:=by
   intro listed hs hr i
   induction i using Nat.strongRecOn with
   |ind i ih=>
    intro hi
    cases hx:listed.getD i false
    · exfalso
      have hlt:i<listed.size:=by omega
      have hx':listed.getD i true=false:=by simp[hlt]at hx⊢;exact hx
      obtain⟨o,ho⟩:∃o,ops[i]? =some o:=⟨_,Array.getElem?_eq_getElem hi⟩
      have:i∈Region.ready .any ops listed:=mem_ready.2 ⟨hx',o,ho,λe he hbd=>by
        have:=hdep i o ho e he hbd
        exact ih e.on this (by omega)⟩
      rw[hr]at this
      cases this
    · rfl
 have main:∀(fuel:Nat) (listed:Array Bool) (a:Act) (w:World),listed.size=ops.size→dhz ops.size listed=fuel→Adm listed a w→wpAnyIn F n P .any ops Q fuel listed a w:=by
   intro fuel
   induction fuel with
   |zero=>
    intro listed a w hs ht hA
    have hall:=gzz hs ht
    refine⟨?_,hend listed a w hs hA hall⟩
    rw[List.eq_nil_iff_forall_not_mem]
    intro i hi
    obtain⟨h1,o,ho,_⟩:=mem_ready.1 hi
    have hlt:=(Array.getElem?_eq_some_iff.1 ho).1
    have h2:=hall i hlt
    have hlt':i<listed.size:=by omega
    simp[hlt']at h1 h2
    rw[h1]at h2
    cases h2
   |succ fuel ih=>
    intro listed a w hs ht hA
    refine⟨λhr=>hend listed a w hs hA (noReady listed hs hr),λi hi=> ?_⟩
    obtain⟨h1,o,ho,hd⟩:=mem_ready.1 hi
    have hlt:=(Array.getElem?_eq_some_iff.1 ho).1
    have h2:=hOz hlt hs h1
    exact wpOpIn_mono (λa' w' h=>ih _ a' w' (by simpa using hs) (by omega) h) (hstep listed a w i o hs hA ho h1 hd)
 refine main _ _ _ _ (by simp) ?_ h0
 unfold dhz
 rw[List.filter_eq_self.2]
 · simp
 · intro i hi
   have:=List.mem_range.1 hi
   simp[this]
def hwz (ops:Array Oper):Bool:=(List.range ops.size).all λi=>match ops[i]? with|some o=>o.after.toList.all λe=> !Region.binds .any e||decide (e.on<i)|none=>true
theorem iDz {ops:Array Oper} (h:hwz ops=true):∀(i:Nat) (o:Oper),ops[i]? =some o→∀e∈o.after,Region.binds .any e=true→e.on<i:=by
 intro i o ho e he hbd
 have hlt:=(Array.getElem?_eq_some_iff.1 ho).1
 have:=(List.all_eq_true.1 h) i (List.mem_range.2 hlt)
 rw[ho]at this
 have:=(List.all_eq_true.1 this) e (by simpa using he)
 simpa[hbd]using this
def did (b:Nat→Bool) (i:Nat):Nat→Bool:=λj=>if j=i then true else b j
theorem elz {F:Fence} {n:Nat} {P:Program} {id:Nat} {ops:Array Oper} {Q:Exit→Act→World→Prop} {a0:Act} {w0:World} (hm:P.follows .mixedOrders=true) (hdep:hwz ops=true) (Adm:(Nat→Bool)→Act→World→Prop) (h0:Adm (λ_=>false) a0 w0.drew) (hstep:∀b a w (i:Nat) (o:Oper),Adm b a w→(∀(j:Nat) (u:Oper),ops[j]? =some u→b j=true→∀e∈u.after.toList,Region.binds .any e=true→b e.on=true)→ops[i]? =some o→b i=false→
     (∀e∈o.after.toList,Region.binds .any e=true→b e.on=true)→wpOpIn F n P ops Q i (λa' w'=>Adm (did b i) a' w') a w) (hend:∀b a w,Adm b a w→(∀i,i<ops.size→b i=true)→Q .normal a w):
   (Code.region id ops true).wpIn F n P Q a0 w0:=by
 refine gtz hm (iDz hdep) (λls a w=>Adm (λj=>ls.getD j false) a w∧∀(j:Nat) (u:Oper),ops[j]? =some u→ls.getD j false=true→∀e∈u.after.toList,Region.binds .any e=true→ls.getD e.on false=true) ?_ ?_ ?_
 · have e:(λj=>(Array.replicate ops.size false).getD j false)=λ_=>false:=by
     funext j
     by_cases hj:j<ops.size<;>simp[hj]
   refine⟨by rw[e];exact h0,λj u _ hj=> ?_⟩
   have ej:(Array.replicate ops.size false).getD j false=false:=congrFun e j
   rw[ej]at hj
   cases hj
 · rintro ls a w i o hs ⟨hA,hcl⟩ ho hl hd
   have hlt:=(Array.getElem?_eq_some_iff.1 ho).1
   have hb:ls.getD i false=false:=by
     have:i<ls.size:=by omega
     simp[this]at hl⊢;exact hl
   refine wpOpIn_mono (λa' w' h=> ?_) (hstep _ a w i o hA hcl ho hb (λe he=>hd e (by simpa using he)))
   have e:(λj=>(ls.setIfInBounds i true).getD j false)=did (λj=>ls.getD j false) i:=by
     funext j
     unfold did
     by_cases hj:j=i
     · subst hj
       have:j<ls.size:=by omega
       simp[this]
     · rw[if_neg hj,getD_set_ne false (λe=>hj e.symm)]
   refine⟨by rw[e];exact h,λj u hu hj x hx hbx=> ?_⟩
   have ej:=congrFun e j
   have ex:=congrFun e x.on
   simp only[did]at ej ex
   rw[ej]at hj
   rw[ex]
   by_cases hxi:x.on=i
   · rw[if_pos hxi]
   · rw[if_neg hxi]
     by_cases hji:j=i
     · subst hji
       rw[ho]at hu
       cases hu
       exact hd x (by simpa using hx) hbx
     · rw[if_neg hji]at hj
       exact hcl j u hu hj x hx hbx
 · rintro ls a w hs ⟨hA,_⟩ hall
   exact hend _ a w hA hall
section
variable {l n:Nat} {P:Program} {ops:Array Oper} {Q:Exit→Act→World→Prop} {i:Nat} {o:Oper} {K:Act→World→Prop} {a:Act} {w w':World}
end
end Go.Proofs.YthhakekbffembaaGreatDoor
namespace Go.Proofs.YthhakekbffembaaGreatDoor
open Go.RowKit
section
variable {n:Nat} {P:Program} {ops:Array Oper} {Q:Exit→Act→World→Prop} {i:Nat} {o:Oper} {K:Act→World→Prop} {a:Act} {w w':World}
end
end Go.Proofs.YthhakekbffembaaGreatDoor
namespace Go.Proofs.YthhakekbffembaaGreatDoor
open Go.RowKit
def arz (ops:Array Oper) (k:Nat):Option Tmp:=(ops[k]?).bind (·.dst)
def lay (base:Array Value) (ops:Array Oper) (val:Nat→Value) (b:Nat→Bool):Nat→Array Value
 |0=>base
 |k+1=>match arz ops k with
  |some s=>if b k=true then(lay base ops val b k).setIfInBounds s (val k)else lay base ops val b k
  |none=>lay base ops val b k
def efz (ops:Array Oper) (m:Nat):Bool:=(List.range ops.size).all λi=>match arz ops i with
 |some s=>decide (s<m)&&(List.range ops.size).all λj=>j==i||arz ops j != some s
 |none=>true
theorem dUz {ops:Array Oper} {m i s:Nat} (h:efz ops m=true) (hi:arz ops i=some s):s<m∧∀j,j≠i→arz ops j≠some s:=by
 have hlt:i<ops.size:=by
  by_cases hx:i<ops.size
  ·exact hx
  ·unfold arz at hi
   rw[Array.getElem?_eq_none (by omega)]at hi
   cases hi
 have:=(List.all_eq_true.1 h) i (List.mem_range.2 hlt)
 rw[hi]at this
 simp only[Bool.and_eq_true,decide_eq_true_eq]at this
 refine⟨this.1,λj hj e=> ?_⟩
 have hjlt:j<ops.size:=by
  by_cases hx:j<ops.size
  ·exact hx
  ·unfold arz at e
   rw[Array.getElem?_eq_none (by omega)]at e
   cases e
 have:=(List.all_eq_true.1 this.2) j (List.mem_range.2 hjlt)
 simp[hj,e]at this
section
variable {base:Array Value} {ops:Array Oper} {val:Nat→Value} {b:Nat→Bool}
theorem lay_size (n:Nat):(lay base ops val b n).size=base.size:=by
 induction n with
 |zero=>rfl
 |succ k ih=>
  unfold lay
  split
  ·split
   ·simpa using ih
   ·exact ih
  ·exact ih
theorem ndz (n:Nat) {s:Nat} (h:∀j,arz ops j≠some s):(lay base ops val b n)[s]? =base[s]? :=by
 induction n with
 |zero=>rfl
 |succ k ih=>
  unfold lay
  split
  ·rename_i t ht
   split
   ·rw[Array.getElem?_setIfInBounds_ne (λe=>h k (by rw[ht,e]))];exact ih
   ·exact ih
  ·exact ih
theorem lYz (n:Nat) {i s:Nat} (hi:arz ops i=some s) (hn:i<n) (hs:s<base.size) (ha:∀j,j≠i→arz ops j≠some s) (hb:b i=true):(lay base ops val b n)[s]? =some (val i):=by
 induction n with
 |zero=>omega
 |succ k ih=>
  by_cases hk:k=i
  ·subst hk
   unfold lay
   simp only[hi,hb,if_true]
   rw[Array.getElem?_setIfInBounds_self_of_lt (by rw[lay_size];exact hs)]
  ·unfold lay
   split
   ·rename_i t ht
    split
    ·rw[Array.getElem?_setIfInBounds_ne (λe=>ha k hk (by rw[ht,e]))];exact ih (by omega)
    ·exact ih (by omega)
   ·exact ih (by omega)
theorem iMz (n:Nat) {i s:Nat} (hi:arz ops i=some s) (hn:i<n) (ha:∀j,j≠i→arz ops j≠some s) (hb:b i=false):
  lay base ops val (did b i) n=(lay base ops val b n).setIfInBounds s (val i):=by
 have low:∀k,k≤i→lay base ops val (did b i) k=lay base ops val b k:=by
  intro k
  induction k with
  |zero=>intro _;rfl
  |succ k ih=>
   intro hk
   unfold lay
   rw[ih (by omega)]
   have:did b i k=b k:=by unfold did;rw[if_neg (by omega)]
   rw[this]
 induction n with
 |zero=>omega
 |succ k ih=>
  by_cases hk:k=i
  ·subst hk
   unfold lay
   rw[low k (Nat.le_refl _)]
   simp[hi,did,hb]
  ·have hd:did b i k=b k:=by unfold did;rw[if_neg hk]
   unfold lay
   rw[ih (by omega),hd]
   split
   ·rename_i t ht
    split
    ·apply Array.ext_getElem?
     intro x
     have hst:t≠s:=λe=>ha k hk (by rw[ht,e])
     simp only[Array.getElem?_setIfInBounds,Array.size_setIfInBounds]
     by_cases h1:t=x
     ·have h2:¬s=x:=λe=>hst (h1.trans e.symm)
      simp[h1,h2]
     ·simp[h1]
    ·rfl
   ·rfl
theorem hFz (n:Nat) {i:Nat} (hi:arz ops i=none):lay base ops val (did b i) n=lay base ops val b n:=by
 induction n with
 |zero=>rfl
 |succ k ih=>
  unfold lay
  rw[ih]
  by_cases hk:k=i
  ·subst hk;simp[hi]
  ·have hd:did b i k=b k:=by unfold did;rw[if_neg hk]
   rw[hd]
end
variable {base:Array Value} {ops:Array Oper} {val:Nat→Value} {b:Nat→Bool}
theorem h3z {d:List Deferred} {m:Nat} (hsz:base.size=m) (hap:efz ops m=true) (j s:Nat) (hs:arz ops j=some s) (hb:b j=true):
  Act.eval ⟨lay base ops val b ops.size,d⟩ (.tmp s)=val j:=by
 subst hsz
 obtain⟨h1,h2⟩:=dUz hap hs
 have hlt:j<ops.size:=by
  by_cases hx:j<ops.size
  ·exact hx
  ·unfold arz at hs
   rw[Array.getElem?_eq_none (by omega)]at hs
   cases hs
 have:=lYz (val:=val) ops.size hs hlt h1 h2 hb
 show(lay base ops val b ops.size).getD s undef=_
 rw[Array.getD_eq_getD_getElem?,this]
 rfl
def jhz (ops:Array Oper) (s:Nat):Bool:=(List.range ops.size).all λi=>arz ops i != some s
theorem lez {d:List Deferred} (s:Nat) (h:jhz ops s=true):
  Act.eval ⟨lay base ops val b ops.size,d⟩ (.tmp s)=base.getD s undef:=by
 have h':∀j,arz ops j≠some s:=by
  intro j e
  have hlt:j<ops.size:=by
   by_cases hx:j<ops.size
   ·exact hx
   ·unfold arz at e
    rw[Array.getElem?_eq_none (by omega)]at e
    cases e
  have:=(List.all_eq_true.1 h) j (List.mem_range.2 hlt)
  simp[e]at this
 show(lay base ops val b ops.size).getD s undef=_
 rw[Array.getD_eq_getD_getElem?,ndz ops.size h',Array.getD_eq_getD_getElem?]
theorem dvz {s:Nat} (h:∀j,arz ops j=some s→b j=false):∀n,(lay base ops val b n)[s]? =base[s]?
 |0=>rfl
 |k+1=>by
  unfold lay
  split
  ·rename_i t ht
   split
   ·rename_i hb
    have hne:t≠s:=by
     intro e
     subst e
     rw[h k ht]at hb
     cases hb
    rw[Array.getElem?_setIfInBounds,if_neg hne]
    exact dvz h k
   ·exact dvz h k
  ·exact dvz h k
theorem aqz {s:Nat} (h:jhz ops s=true):∀i,arz ops i=some s→b i=false:=by
 intro i e
 have hlt:i<ops.size:=by
  by_cases hx:i<ops.size
  ·exact hx
  ·unfold arz at e
   rw[Array.getElem?_eq_none (by omega)]at e
   cases e
 have:=(List.all_eq_true.1 h) i (List.mem_range.2 hlt)
 simp[e]at this
theorem fFz {m:Nat} (hsz:base.size=m) (hap:efz ops m=true) (j s:Nat) (x:Bool) (hs:arz ops j=some s) (hb:b j=true) (hv:val j=.bool x):
  yielded ops (lay base ops val b ops.size) j=some x:=by
 subst hsz
 obtain⟨h1,h2⟩:=dUz hap hs
 have hlt:j<ops.size:=by
  by_cases hx:j<ops.size
  ·exact hx
  ·unfold arz at hs
   rw[Array.getElem?_eq_none (by omega)]at hs
   cases hs
 have:=lYz (val:=val) ops.size hs hlt h1 h2 hb
 unfold yielded
 have e:(ops[j]?).bind (·.dst)=some s:=hs
 rw[e,Option.bind_some,this,hv]
def aaz (L:List (Option Tmp×Value)) (k:Nat):Value:=(L.getD k (none,undef)).2
def abz (base:Array Value):List (Option Tmp×Value)→Array Value
 |[]=>base
 |(some s,v)::r=>abz (base.setIfInBounds s v) r
 |(none,_)::r=>abz base r
theorem hoz (L:List (Option Tmp×Value)) (x:Option Tmp×Value):∀base,abz base (L++[x])=match x with|(some s,v)=>(abz base L).setIfInBounds s v|(none,_)=>abz base L:=by
 induction L with
 |nil=>intro base;obtain⟨s,v⟩:=x;cases s<;>rfl
 |cons y L ih=>
  intro base
  obtain⟨s,v⟩:=y
  cases s
  ·exact ih base
  ·exact ih _
theorem lay_all {L:List (Option Tmp×Value)} (hL:L.map (·.1)=ops.toList.map (·.dst)):lay base ops (aaz L) (λ_=>true) ops.size=abz base L:=by
 have hlen:L.length=ops.size:=by
  have:=congrArg List.length hL
  simpa using this
 have key:∀n,n≤ops.size→lay base ops (aaz L) (λ_=>true) n=abz base (L.take n):=by
  intro n
  induction n with
  |zero=>intro _;rfl
  |succ k ih=>
   intro hk
   have hkL:k<L.length:=by omega
   have hsl:arz ops k=(L[k]).1:=by
    have h1:(L.map (·.1))[k]? =(ops.toList.map (·.dst))[k]? :=by rw[hL]
    rw[List.getElem?_map,List.getElem?_map,List.getElem?_eq_getElem hkL]at h1
    have h2:ops.toList[k]? =ops[k]? :=by simp
    rw[h2]at h1
    unfold arz
    rw[Array.getElem?_eq_getElem (by omega)]at h1⊢
    simpa using h1.symm
   have hv:aaz L k=(L[k]).2:=by
    unfold aaz
    rw[List.getD,List.getElem?_eq_getElem hkL]
    rfl
   rw[List.take_add_one,List.getElem?_eq_getElem hkL,Option.toList_some,hoz,← ih (by omega)]
   have e:lay base ops (aaz L) (λ_=>true) (k+1)=match arz ops k with
    |some s=>if true=true then(lay base ops (aaz L) (λ_=>true) k).setIfInBounds s (aaz L k)else lay base ops (aaz L) (λ_=>true) k
    |none=>lay base ops (aaz L) (λ_=>true) k:=rfl
   rw[e,hsl,hv]
   cases h:L[k]with
   |mk s v=>cases s<;>simp
 rw[key _ (Nat.le_refl _),List.take_of_length_le (by omega)]
inductive Does (P:Program) (ops:Array Oper) (a:Act) (w:World) (o:Oper) (v:Value) (K:World→Prop):Prop
 |value (w':World) (hw:Region.wanted o (yielded ops a.tmps)=true) (hnd:∀c,o.op≠.defer c) (hrun:(execOp a.eval o).run P w=.ok (.value v) w') (hK:K w')
 |call (f:FuncId) (args:Array Value) (hw:Region.wanted o (yielded ops a.tmps)=true) (hnd:∀c,o.op≠.defer c) (hrun:(execOp a.eval o).run P w=.ok (.enter f args) w)
  (hc:Calls P f args w λe w''=>e=.returned v∧K w'')
 |pass (hw:Region.wanted o (yielded ops a.tmps)=false) (hv:v=undef) (hK:K w)
section
variable {P:Program} {ops:Array Oper} {a:Act} {w w':World} {o:Oper} {v:Value} {K:World→Prop}
theorem ivz (hg:o.guard=none) (hnd:∀c,o.op≠.defer c) (hrun:(execOp a.eval o).run P w=.ok (.value v) w') (hK:K w'):Does P ops a w o v K:=
 .value w' (by unfold Region.wanted;rw[hg]) hnd hrun hK
theorem grz {j:Nat} {x:Bool} (hg:o.guard=some (j,x)) (hy:yielded ops a.tmps j=some x) (hnd:∀c,o.op≠.defer c) (hrun:(execOp a.eval o).run P w=.ok (.value v) w') (hK:K w'):Does P ops a w o v K:=
 .value w' (by unfold Region.wanted;rw[hg];simp[hy]) hnd hrun hK
theorem ayz {f:FuncId} {args:Array Value} (hg:o.guard=none) (hnd:∀c,o.op≠.defer c) (hrun:(execOp a.eval o).run P w=.ok (.enter f args) w) (hc:Calls P f args w λe w''=>e=.returned v∧K w''):Does P ops a w o v K:=
 .call f args (by unfold Region.wanted;rw[hg]) hnd hrun hc
theorem apz {j:Nat} {x:Bool} {f:FuncId} {args:Array Value} (hg:o.guard=some (j,x)) (hy:yielded ops a.tmps j=some x) (hnd:∀c,o.op≠.defer c) (hrun:(execOp a.eval o).run P w=.ok (.enter f args) w) (hc:Calls P f args w λe w''=>e=.returned v∧K w''):Does P ops a w o v K:=
 .call f args (by unfold Region.wanted;rw[hg];simp[hy]) hnd hrun hc
theorem a1z {j:Nat} {x y:Bool} (hg:o.guard=some (j,x)) (hy:yielded ops a.tmps j=some y) (hne:x≠y) (hv:v=undef) (hK:K w):Does P ops a w o v K:=
 .pass (by unfold Region.wanted;rw[hg];simp[hy];exact λe=>hne e.symm) hv hK
theorem ahz {j:Nat} {x:Bool} (hg:o.guard=some (j,x)) (hy:yielded ops a.tmps j=none) (hv:v=undef) (hK:K w):Does P ops a w o v K:=
 .pass (by unfold Region.wanted;rw[hg];simp[hy]) hv hK
end
theorem gYz {P:Program} {id:Nat} {ops:Array Oper} {Q:Exit→Act→World→Prop} {base:Array Value} {d:List Deferred} {w0:World} (hm:P.follows .mixedOrders=true) (hdep:hwz ops=true) (m:Nat) (hsz:base.size=m) (hap:efz ops m=true) (L:List (Option Tmp×Value)) (hL:L.map (·.1)=ops.toList.map (·.dst)) (St:(Nat→Bool)→World→Prop) (h0:St (λ_=>false) w0.drew) (hstep:∀b w (i:Nat) (o:Oper) (a:Act),St b w→(∀(j:Nat) (u:Oper),ops[j]? =some u→b j=true→∀e∈u.after.toList,Region.binds .any e=true→b e.on=true)→ops[i]? =some o→b i=false→
     (∀e∈o.after.toList,Region.binds .any e=true→b e.on=true)→
     (∀j s,arz ops j=some s→b j=true→a.tmps[s]?.getD undef=aaz L j)→(∀s,jhz ops s=true→a.tmps[s]?.getD undef=base.getD s undef)→(∀j s x,arz ops j=some s→b j=true→aaz L j=.bool x→yielded ops a.tmps j=some x)→
     Does P ops a w o (aaz L i) (St (did b i))) (hend:∀b w,St b w→(∀i,i<ops.size→b i=true)→Q .normal ⟨abz base L,d⟩ w):
   (Code.region id ops true).wp P Q ⟨base,d⟩ w0:=by
 subst hsz
 rw[← lay_all hL]at hend
 refine(wpIn_wide (n:=6)).1 ?_
 refine elz hm hdep (λb a w=>a=⟨lay base ops (aaz L) b ops.size,d⟩∧St b w) ⟨?_,h0⟩ ?_ ?_
 · have:∀n,lay base ops (aaz L) (λ_=>false) n=base:=by
     intro n
     induction n with
     |zero=>rfl
     |succ k ih=>unfold lay;split<;>simp[ih]
   rw[this]
 · rintro b a w i o ⟨rfl,hS⟩ hcl ho hb hd
   have hlt:=(Array.getElem?_eq_some_iff.1 ho).1
   have hput:∀w',St (did b i) w'→(Act.put ⟨lay base ops (aaz L) b ops.size,d⟩ o.dst (aaz L i))=⟨lay base ops (aaz L) (did b i) ops.size,d⟩∧St (did b i) w':=by
     intro w' h
     refine⟨?_,h⟩
     cases hdst:o.dst with
     |none=>
      have hsl:arz ops i=none:=by unfold arz;rw[ho];exact hdst
      rw[hFz ops.size hsl]
      rfl
     |some s=>
      have hsl:arz ops i=some s:=by unfold arz;rw[ho];exact hdst
      obtain⟨_,h2⟩:=dUz hap hsl
      rw[iMz ops.size hsl hlt h2 hb]
      rfl
   unfold wpOpIn
   rw[ho]
   cases hstep b w i o _ hS hcl ho hb hd (λj s h1 h2=>by rw[← Array.getD_eq_getD_getElem?];exact h3z (d:=d) rfl hap j s h1 h2) (λs h=>by rw[← Array.getD_eq_getD_getElem?];exact lez (d:=d) s h) (λj s x h1 h2 h3=>fFz rfl hap j s x h1 h2 h3)with
   |value w' hw hnd hrun hK=>
    simp only[hw,if_true]
    refine⟨λ_ _=>trivial, ?_⟩
    rw[Oper.semAt_plain _ _ _ hnd,hrun]
    exact hput _ hK
   |call f args hw hnd hrun hc=>
    simp only[hw,if_true]
    refine⟨λ_ _=>trivial, ?_⟩
    rw[Oper.semAt_plain _ _ _ hnd,hrun]
    refine⟨λh=>by simp[Fence.wide]at h, ?_⟩
    refine callsIn_wide.2 (hc.mono ?_)
    rintro e w'' ⟨rfl,hK⟩
    exact hput _ hK
   |pass hw hv hK=>
    simp only[hw,Bool.false_eq_true,if_false]
    refine⟨λ_ _=>trivial, ?_⟩
    rw[← hv]
    exact hput _ hK
 · rintro b a w ⟨rfl,hS⟩ hall
   have e:lay base ops (aaz L) b ops.size=lay base ops (aaz L) (λ_=>true) ops.size:=by
     have:∀n,n≤ops.size→lay base ops (aaz L) b n=lay base ops (aaz L) (λ_=>true) n:=by
       intro n
       induction n with
       |zero=>intro _;rfl
       |succ k ih=>intro hk;unfold lay;rw[ih (by omega),hall k (by omega)]
     exact this _ (Nat.le_refl _)
   rw[e]
   exact hend b w hS hall
inductive Doesg (P:Program) (ops:Array Oper) (a:Act) (w:World) (o:Oper) (K:Value→World→Prop):Prop
 |value (v:Value) (w':World) (hw:Region.wanted o (yielded ops a.tmps)=true) (hnd:∀c,o.op≠.defer c) (hrun:(execOp a.eval o).run P w=.ok (.value v) w') (hK:K v w')
 |call (f:FuncId) (args:Array Value) (hw:Region.wanted o (yielded ops a.tmps)=true) (hnd:∀c,o.op≠.defer c) (hrun:(execOp a.eval o).run P w=.ok (.enter f args) w)
  (hc:Calls P f args w λe w''=>∃v,e=.returned v∧K v w'')
 |skip (w':World) (hw:Region.wanted o (yielded ops a.tmps)=true) (hnd:∀c,o.op≠.defer c) (hrun:(execOp a.eval o).run P w=.ok .skip w') (hK:K undef w')
 |pass (hw:Region.wanted o (yielded ops a.tmps)=false) (hK:K undef w)
section
variable {P:Program} {ops:Array Oper} {a:Act} {w w':World} {o:Oper} {v:Value} {K:Value→World→Prop}
theorem a9z (hg:o.guard=none) (hnd:∀c,o.op≠.defer c) (hrun:(execOp a.eval o).run P w=.ok (.value v) w') (hK:K v w'):Doesg P ops a w o K:=
 .value v w' (by unfold Region.wanted;rw[hg]) hnd hrun hK
theorem blz (hg:o.guard=none) (hnd:∀c,o.op≠.defer c) (hrun:(execOp a.eval o).run P w=.ok .skip w') (hK:K undef w'):Doesg P ops a w o K:=
 .skip w' (by unfold Region.wanted;rw[hg]) hnd hrun hK
theorem aLz {f:FuncId} {args:Array Value} (hg:o.guard=none) (hnd:∀c,o.op≠.defer c) (hrun:(execOp a.eval o).run P w=.ok (.enter f args) w) (hc:Calls P f args w λe w''=>∃v,e=.returned v∧K v w''):Doesg P ops a w o K:=
 .call f args (by unfold Region.wanted;rw[hg]) hnd hrun hc
end
theorem ktz {base:Array Value} {ops:Array Oper} {val val':Nat→Value} {b:Nat→Bool} (h:∀j,b j=true→val' j=val j) (n:Nat):lay base ops val' b n=lay base ops val b n:=by
 induction n with
 |zero=>rfl
 |succ k ih=>
  unfold lay
  split
  ·split
   ·rename_i hb
    rw[ih,h k hb]
   ·exact ih
  ·exact ih
theorem axz {P:Program} {id:Nat} {ops:Array Oper} {Q:Exit→Act→World→Prop} {base:Array Value} {d:List Deferred} {w0:World} (hm:P.follows .mixedOrders=true) (hdep:hwz ops=true) (m:Nat) (hsz:base.size=m) (hap:efz ops m=true) {G:Type} (g0:G) (L:G→List (Option Tmp×Value)) (hL:∀g,(L g).map (·.1)=ops.toList.map (·.dst)) (St:G→(Nat→Bool)→World→Prop) (h0:St g0 (λ_=>false) w0.drew) (hstep:∀g b w (i:Nat) (o:Oper) (a:Act),St g b w→(∀(j:Nat) (u:Oper),ops[j]? =some u→b j=true→∀e∈u.after.toList,Region.binds .any e=true→b e.on=true)→ops[i]? =some o→b i=false→
     (∀e∈o.after.toList,Region.binds .any e=true→b e.on=true)→
     (∀j s,arz ops j=some s→b j=true→a.tmps[s]?.getD undef=aaz (L g) j)→(∀s,(∀j,arz ops j=some s→b j=false)→a.tmps[s]?.getD undef=base.getD s undef)→(∀j s x,arz ops j=some s→b j=true→aaz (L g) j=.bool x→yielded ops a.tmps j=some x)→
     Doesg P ops a w o (λv w'=>∃g',(∀j,b j=true→aaz (L g') j=aaz (L g) j)∧v=aaz (L g') i∧St g' (did b i) w')) (hend:∀g b w,St g b w→(∀i,i<ops.size→b i=true)→Q .normal ⟨abz base (L g),d⟩ w):
   (Code.region id ops true).wp P Q ⟨base,d⟩ w0:=by
 subst hsz
 refine(wpIn_wide (n:=6)).1 ?_
 refine elz hm hdep (λb a w=>∃g,a=⟨lay base ops (aaz (L g)) b ops.size,d⟩∧St g b w) ⟨g0, ?_,h0⟩ ?_ ?_
 · have:∀n,lay base ops (aaz (L g0)) (λ_=>false) n=base:=by
     intro n
     induction n with
     |zero=>rfl
     |succ k ih=>unfold lay;split<;>simp[ih]
   rw[this]
 · rintro b a w i o ⟨g,rfl,hS⟩ hcl ho hb hd
   have hlt:=(Array.getElem?_eq_some_iff.1 ho).1
   have hput:∀v w',(∃g',(∀j,b j=true→aaz (L g') j=aaz (L g) j)∧v=aaz (L g') i∧St g' (did b i) w')→∃g',(Act.put ⟨lay base ops (aaz (L g)) b ops.size,d⟩ o.dst v)=⟨lay base ops (aaz (L g')) (did b i) ops.size,d⟩∧St g' (did b i) w':=by
     rintro v w' ⟨g',hc,rfl,h⟩
     refine⟨g', ?_,h⟩
     rw[← ktz hc]
     cases hdst:o.dst with
     |none=>
      have hsl:arz ops i=none:=by unfold arz;rw[ho];exact hdst
      rw[hFz ops.size hsl]
      rfl
     |some s=>
      have hsl:arz ops i=some s:=by unfold arz;rw[ho];exact hdst
      obtain⟨_,h2⟩:=dUz hap hsl
      rw[iMz ops.size hsl hlt h2 hb]
      rfl
   unfold wpOpIn
   rw[ho]
   cases hstep g b w i o _ hS hcl ho hb hd (λj s h1 h2=>by rw[← Array.getD_eq_getD_getElem?];exact h3z (d:=d) rfl hap j s h1 h2) (λs h=>by rw[dvz h ops.size,Array.getD_eq_getD_getElem?]) (λj s x h1 h2 h3=>fFz rfl hap j s x h1 h2 h3)with
   |value v w' hw hnd hrun hK=>
    simp only[hw,if_true]
    refine⟨λ_ _=>trivial, ?_⟩
    rw[Oper.semAt_plain _ _ _ hnd,hrun]
    exact hput _ _ hK
   |call f args hw hnd hrun hc=>
    simp only[hw,if_true]
    refine⟨λ_ _=>trivial, ?_⟩
    rw[Oper.semAt_plain _ _ _ hnd,hrun]
    refine⟨λh=>by simp[Fence.wide]at h, ?_⟩
    refine callsIn_wide.2 (hc.mono ?_)
    rintro e w'' ⟨v,rfl,hK⟩
    exact hput _ _ hK
   |skip w' hw hnd hrun hK=>
    simp only[hw,if_true]
    refine⟨λ_ _=>trivial, ?_⟩
    rw[Oper.semAt_plain _ _ _ hnd,hrun]
    exact hput _ _ hK
   |pass hw hK=>
    simp only[hw,Bool.false_eq_true,if_false]
    refine⟨λ_ _=>trivial, ?_⟩
    exact hput _ _ hK
 · rintro b a w ⟨g,rfl,hS⟩ hall
   have e:lay base ops (aaz (L g)) b ops.size=abz base (L g):=by
     rw[← lay_all (hL g)]
     have:∀n,n≤ops.size→lay base ops (aaz (L g)) b n=lay base ops (aaz (L g)) (λ_=>true) n:=by
       intro n
       induction n with
       |zero=>intro _;rfl
       |succ k ih=>intro hk;unfold lay;rw[ih (by omega),hall k (by omega)]
     exact this _ (Nat.le_refl _)
   rw[e]
   exact hend g b w hS hall
end Go.Proofs.YthhakekbffembaaGreatDoor
namespace Go.Proofs.YthhakekbffembaaGreatDoor
open Go.RowKit
theorem akz {ops:Array Oper} {tmps:Array Value} {j s:Nat} (hs:arz ops j=some s) (hv:tmps[s]?.getD undef=undef):yielded ops tmps j=none:=by
 unfold yielded
 have e:(ops[j]?).bind (·.dst)=some s:=hs
 rw[e,Option.bind_some]
 cases h:tmps[s]? with
 |none=>rfl
 |some v=>
  rw[h]at hv
  have hv':v=undef:=hv
  rw[hv']
  rfl
def alz (n:Nat):Code→Option (Array Oper)
 |.region k ops _=>if k=n then some ops else none
 |.seq a b=>match alz n a with|some x=>some x|none=>alz n b
 |.cond _ a b=>match alz n a with|some x=>some x|none=>alz n b
 |.block _ b=>alz n b
 |.loop b=>alz n b
 |.scope b=>alz n b
 |.rangeFunc _ _ a b=>match alz n a with|some x=>some x|none=>alz n b
 |_=>none
end Go.Proofs.YthhakekbffembaaGreatDoor

namespace Go.Proofs.YthhakekbffembaaGreatDoor
open Go.RowKit

variable {Q:Exit→Act→World→Prop} {base:Array Value} {dd:List Deferred} {o:Oper} {b:Nat→Bool} {ops:Array Oper} {a:Act} {v:Value}
theorem hmx:Tryz.prog.follows .mixedOrders=true:=by kernel_rfl
theorem qq {α:Type _}:(∀(l:List α) (i:Nat),l.toArray[i]? =l[i]?)∧(∀(a:α) (l:List α),(a::l)[0]? =some a)∧(∀(a:α) (l:List α) (i:Nat),(a::l)[i+1]? =l[i]?)∧∀a b:α,(some a=some b)=(a=b):=⟨λ_ _=>List.getElem?_toArray,λ_ _=>List.getElem?_cons_zero,λ_ _ _=>List.getElem?_cons_succ,λa b=>Option.some.injEq a b⟩
theorem qA {α:Type _} (l:List α) (i:Nat):l.toArray[i]? =l[i]? :=List.getElem?_toArray
theorem qB {α:Type _} {a:α} {l:List α}:(a::l)[0]? =some a:=List.getElem?_cons_zero
theorem qC {α:Type _} {a:α} {l:List α} {i:Nat}:(a::l)[i+1]? =l[i]? :=List.getElem?_cons_succ
theorem nF {x y:Bool} (h:x=true→y=true) (hy:y=false):x=false:=by cases x with
 |false=>rfl
 |true=>rw[h rfl]at hy;cases hy
theorem qL {w9:World} {L:List (Option Tmp×Value)} (_:∀W,Below w9.heap.size w9 W→Q .normal ⟨abz base L,dd⟩ W):∃LL:List (Option Tmp×Value),LL=L:=⟨_,rfl⟩
theorem hD (hd:∀e∈o.after.toList,Region.binds .any e=true→b e.on=true) (k:Nat) (h:(⟨k,.data⟩:Edge)∈o.after.toList:=by simp):b k=true:=hd _ h rfl
theorem hG (hd:∀e∈o.after.toList,Region.binds .any e=true→b e.on=true) (k:Nat) (h:(⟨k,.guard⟩:Edge)∈o.after.toList:=by simp):b k=true:=hd _ h rfl
theorem dV {P:Program} {w w':World} {K:World→Prop} (hrun:(execOp a.eval o).run P w=.ok (.value v) w') (hK:K w') (hg:o.guard=none:=by rfl) (hnd:∀c,o.op≠.defer c:=by nofun):Does P ops a w o v K:=ivz hg hnd hrun hK
theorem dG {P:Program} {w w':World} {K:World→Prop} {j:Nat} {x:Bool} (hy:yielded ops a.tmps j=some x) (hrun:(execOp a.eval o).run P w=.ok (.value v) w') (hK:K w') (hg:o.guard=some (j,x):=by rfl) (hnd:∀c,o.op≠.defer c:=by nofun):Does P ops a w o v K:=grz hg hy hnd hrun hK
theorem vL {L LL:List (Option Tmp×Value)} {k:Nat} (h:LL=L) (e:aaz L k=v):aaz LL k=v:=by rw[h];exact e
theorem sA {α:Type _} {l:List α} {i:Nat} {a:α}:l.toArray.setIfInBounds i a=(l.set i a).toArray:=List.setIfInBounds_toArray l i a
theorem sB {α:Type _} {x a:α} {xs:List α}:(x::xs).set 0 a=a::xs:=List.set_cons_zero
theorem sC {α:Type _} {x a:α} {xs:List α} {n:Nat}:(x::xs).set (n+1) a=x::xs.set n a:=List.set_cons_succ
theorem eD {L:List (Option Tmp×Value)} (ev:∀j s,arz ops j=some s→b j=true→a.tmps[s]?.getD undef=aaz L j) (hd:∀e∈o.after.toList,Region.binds .any e=true→b e.on=true) (k:Nat) (s:Tmp) (h:aaz L k=v) (hs:arz ops k=some s:=by rfl) (hm:(⟨k,.data⟩:Edge)∈o.after.toList:=by simp):a.tmps[s]?.getD undef=v:=(ev k s hs (hd _ hm rfl)).trans h
theorem qD {α:Type _} {a b:α}:(some a=some b)=(a=b):=Option.some.injEq a b
def AV (L:List (Option Tmp×Value)):Nat→List (Option Tmp×Value)→Prop
 |_,[]=>True
 |k,x::r=>aaz L k=x.2∧AV L (k+1) r
theorem jcz {L:List (Option Tmp×Value)}:∀(l:List (Option Tmp×Value)) (k:Nat),(∀i,i<l.length→aaz L (k+i)=(l.getD i (none,undef)).2)→AV L k l
 |[],_,_=>trivial
 |x::r,k,h=>⟨by have:=h 0 (by simp);simpa using this,jcz r (k+1) λi hi=>by
  have:=h (i+1) (by simpa using hi)
  rw[show k+1+i=k+(i+1) by omega]
  simpa using this⟩
theorem aV {L l:List (Option Tmp×Value)} (h:L=l):AV L 0 l:=by
 subst h
 exact jcz L 0 λi hi=>by rw[Nat.zero_add];rfl
def AE (b:Nat→Bool) (t:Array Value):Nat→List (Option Tmp×Value)→Prop
 |_,[]=>True
 |k,(some s,v)::r=>(b k=true→t[s]?.getD undef=v)∧AE b t (k+1) r
 |k,(none,_)::r=>AE b t (k+1) r
theorem g4z {L:List (Option Tmp×Value)} {t:Array Value} (ev:∀j s,arz ops j=some s→b j=true→t[s]?.getD undef=aaz L j):∀(l:List (Option Tmp×Value)) (k:Nat),(∀i,i<l.length→aaz L (k+i)=(l.getD i (none,undef)).2∧arz ops (k+i)=(l.getD i (none,undef)).1)→AE b t k l
 |[],_,_=>trivial
 |(none,v)::r,k,h=>g4z ev r (k+1) λi hi=>by
  have:=h (i+1) (by simpa using hi)
  rw[show k+1+i=k+(i+1) by omega]
  simpa using this
 |(some s,v)::r,k,h=>⟨λhb=>by
  have:=h 0 (by simp)
  simp at this
  rw[ev k s this.2 hb,this.1],g4z ev r (k+1) λi hi=>by
  have:=h (i+1) (by simpa using hi)
  rw[show k+1+i=k+(i+1) by omega]
  simpa using this⟩
theorem aE {L l:List (Option Tmp×Value)} {t:Array Value} (h:L=l) (hL:l.map (·.1)=ops.toList.map (·.dst)) (ev:∀j s,arz ops j=some s→b j=true→t[s]?.getD undef=aaz L j):AE b t 0 l:=by
 subst h
 refine g4z ev L 0 λi hi=>⟨by rw[Nat.zero_add];rfl, ?_⟩
 have h1:(L.map (·.1))[i]? =(ops.toList.map (·.dst))[i]? :=by rw[hL]
 rw[List.getElem?_map,List.getElem?_map,List.getElem?_eq_getElem hi]at h1
 unfold arz
 rw[Nat.zero_add]
 have h2:ops[i]? =ops.toList[i]? :=by simp
 rw[h2]
 cases h3:ops.toList[i]? with
 |none=>rw[h3]at h1;cases h1
 |some o=>
  rw[h3]at h1
  simp[List.getD,List.getElem?_eq_getElem hi]
  simpa using h1.symm
def AD (b:Nat→Bool):List Edge→Prop
 |[]=>True
 |⟨_,.textOnly _⟩::r=>AD b r
 |⟨_,.gcOnly _⟩::r=>AD b r
 |⟨k,_⟩::r=>b k=true∧AD b r
theorem aD:∀{l:List Edge},(∀e∈l,Region.binds .any e=true→b e.on=true)→AD b l
 |[],_=>trivial
 |⟨k,g⟩::r,h=>by
  have h2:=aD (l:=r) λe he=>h e (List.mem_cons_of_mem _ he)
  have h1:=h ⟨k,g⟩ (List.mem_cons_self ..)
  cases g<;>first|exact h2|exact⟨h1 rfl,h2⟩
theorem rU {id:Nat} {w9:World} {L:List (Option Tmp×Value)} (hdep:hwz ops=true) (m:Nat) (hsz:base.size=m) (hap:efz ops m=true) (hL:L.map (·.1)=ops.toList.map (·.dst)) (hQ:∀W,Below w9.heap.size w9 W→Q .normal ⟨abz base L,dd⟩ W)
  (hstep:∀LL:List (Option Tmp×Value),LL=L→∀(b:Nat→Bool) (w:World) (i:Nat) (o:Oper) (a:Act),Below w9.heap.size w9 w→(∀(j:Nat) (u:Oper),ops[j]? =some u→b j=true→∀e∈u.after.toList,Region.binds .any e=true→b e.on=true)→ops[i]? =some o→b i=false→(∀e∈o.after.toList,Region.binds .any e=true→b e.on=true)→(∀j s,arz ops j=some s→b j=true→a.tmps[s]?.getD undef=aaz LL j)→(∀s,jhz ops s=true→a.tmps[s]?.getD undef=base.getD s undef)→(∀j s x,arz ops j=some s→b j=true→aaz LL j=.bool x→yielded ops a.tmps j=some x)→Does Tryz.prog ops a w o (aaz LL i) (λW=>Below w9.heap.size w9 W)):(Code.region id ops true).wp Tryz.prog Q ⟨base,dd⟩ w9:=
 gYz hmx hdep m hsz hap L hL (λ_ W=>Below w9.heap.size w9 W) (Below.refl _ _).drew (hstep L rfl) (λ_ w h _=>hQ w h)
theorem qG {T:Type} {L:T→List (Option Tmp×Value)} {S:T→World→Prop} (_:∀g W,S g W→Q .normal ⟨abz base (L g),dd⟩ W):∃LL:T→List (Option Tmp×Value),LL=L:=⟨_,rfl⟩
theorem qH {p:Prop} (hcl:∀(j:Nat) (u:Oper),ops[j]? =some u→b j=true→∀e∈u.after.toList,Region.binds .any e=true→b e.on=true) (j k:Nat) (h:p→b j=true) (hx:(ops[j]?.any λu=>u.after.toList.any λe=>Nat.beq e.on k&&Region.binds .any e)=true:=by kernel_rfl):p→b k=true:=λhp=>by
 cases hu:ops[j]? with
 |none=>rw[hu]at hx;cases hx
 |some u=>
  rw[hu]at hx
  obtain⟨e,he,h2⟩:=List.any_eq_true.1 (show(u.after.toList.any λe=>Nat.beq e.on k&&Region.binds .any e)=true from hx)
  rw[Bool.and_eq_true]at h2
  have:=hcl j u hu (h hp) e he h2.2
  rwa [Nat.eq_of_beq_eq_true h2.1]at this
abbrev pO (x:Nat):Value:=.pointer (some ⟨x,0,none⟩)
abbrev iV (x:Int):Value:=.int .i64 x
end Go.Proofs.YthhakekbffembaaGreatDoor
