import Derived.Test.YthhakekbffembaaGreatDoorQEve
import Derived.Test.YthhakekbffembaaGreatDoorQAn
import Derived.Laws.Tables
set_option maxRecDepth 8000
set_option maxHeartbeats 4000000

namespace Go.Proofs.YthhakekbffembaaGreatDoor.Ck.Y.W
open Go.RowKit Go.Maps Go.Lib
open L (a2z a6z anz a5z)
open Sh (bas bbz bfz SplitOf AP idA nmA lsA evz coz shownAt shownL)
variable {ls:List OG} {T:List OB} {s i:Nat} {q:PI} {K:List PI} {f:PI→List UInt8}
theorem hhz (l:List UInt8):Cd.nameN l=Sh.nameN l:=rfl
theorem kLz {P:OB→Prop} {T0:List OB} {s0:Nat} (h:FoldT T0 s0 ls T s):(∀o∈T0,P o)→(∀o∈ls,(o.kd=1∨o.kd=2)→P (bFz o))→(∀o∈ls,o.kd=3→∀b,P b→P (aQz o b))→∀o∈T,P o:=by
 induction h with
 |nil=>intro h0 _ _;exact h0
 | @cons T T1 T2 s s1 s2 o l h1 _ ih=>
  intro h0 hmk hmv
  refine ih ?_ (λx hx=>hmk x (List.mem_cons_of_mem _ hx)) (λx hx=>hmv x (List.mem_cons_of_mem _ hx))
  cases h1 with
  |make k1=>
   intro x hx
   rcases List.mem_append.1 hx with hx|hx
   ·exact h0 x hx
   ·rw[List.mem_singleton.1 hx];exact hmk o List.mem_cons_self k1
  |made=>exact h0
  | @move k b k1 k2 k3=>
   intro x hx
   obtain⟨j,hj,e⟩:=List.getElem_of_mem hx
   rw[List.length_set]at hj
   by_cases ej:j=k
   ·subst ej
    rw[List.getElem_set_self]at e
    rw[← e]
    exact hmv o List.mem_cons_self k1 b (h0 b (List.mem_of_getElem? k3))
   ·rw[List.getElem_set_ne (λe'=>ej e'.symm)]at e
    rw[← e];exact h0 _ (List.getElem_mem _)
  |moved=>exact h0
  |other=>exact h0
structure TOk (ls:List OG) (T:List OB) (s:Nat):Prop where
 fold:FoldT [] 0 ls T s
 wf:WfT T
 ok:∀o∈T,Ck.validB o.it o.ii=true∧Sh.nameN o.nm.data.toList=0
theorem d4z {o:OG} {ns:List Int} (h:L.mayW o ns=true):Ck.validB o.t o.n=true∧1≤o.ot∧((o.kd=1∨o.kd=2)→o.ot=o.t∧o.on=o.n∧Sh.nameN o.nm.data.toList=0)∧(o.kd=3→Sh.nameN o.nm.data.toList=0):=by
 unfold L.mayW Cd.mayO at h
 simp only[Bool.and_eq_true]at h
 obtain⟨⟨h1,_⟩,h3⟩:=h
 have hv:=Ck.validB_true.1 h1
 refine⟨h1, ?_,λk=> ?_,λk=> ?_⟩
 ·unfold Cd.kindB at h3
  by_cases k1:o.kd=1∨o.kd=2
  ·rw[if_pos k1]at h3
   simp only[Bool.and_eq_true]at h3
   have:=Cd.sameB_true.1 h3.1.1
   omega
  ·rw[if_neg k1]at h3
   by_cases k3:o.kd=3
   ·rw[if_pos k3]at h3
    simp only[Bool.and_eq_true]at h3
    exact Cd.olderB_time h3.1.1
   ·rw[if_neg k3]at h3
    by_cases k4:o.kd=4
    ·rw[if_pos k4]at h3
     simp only[Bool.and_eq_true]at h3
     exact Cd.olderB_time h3.1.1.1
    ·rw[if_neg k4]at h3;cases h3
 ·unfold Cd.kindB at h3
  rw[if_pos k]at h3
  simp only[Bool.and_eq_true]at h3
  have e:=Cd.sameB_true.1 h3.1.1
  refine⟨e.1,e.2, ?_⟩
  have:=h3.2
  unfold Cd.placedB at this
  simp only[Bool.and_eq_true,decide_eq_true_eq]at this
  rw[← hhz];exact this.1
 ·unfold Cd.kindB at h3
  rw[if_neg (by omega),if_pos k]at h3
  simp only[Bool.and_eq_true]at h3
  have:=h3.2
  unfold Cd.placedB at this
  simp only[Bool.and_eq_true,decide_eq_true_eq]at this
  rw[← hhz];exact this.1
theorem l8z (hm:∀o∈ls,∃ns,L.mayW o ns=true) (hf:FoldT [] 0 ls T s):TOk ls T s:=by
 refine⟨hf,WfT.nil.fold hf (λo ho=> ?_),kLz (P:=λo=>Ck.validB o.it o.ii=true∧Sh.nameN o.nm.data.toList=0) hf (λo ho=>by simp at ho) (λo ho k=> ?_) (λo ho k b hb=> ?_)⟩
 ·obtain⟨ns,h⟩:=hm o ho
  have:=(d4z h).2.1
  omega
 ·obtain⟨ns,h⟩:=hm o ho
  obtain⟨h1,_,h3,_⟩:=d4z h
  obtain⟨e1,e2,e3⟩:=h3 k
  refine⟨?_,e3⟩
  show Ck.validB o.ot o.on=true
  rw[e1,e2];exact h1
 ·obtain⟨ns,h⟩:=hm o ho
  exact⟨hb.1,(d4z h).2.2.2 k⟩
def nmT (T:List OB) (q:PI):List UInt8:=match amz T q with
 |some (_,nm)=>nm.data.toList
 |none=>[]
theorem gaz {p:PI} {nm:ByteArray} (h:amz T q=some (p,nm)):nmT T q=nm.data.toList:=by unfold nmT;rw[h]
theorem bas_of (nm:ByteArray):bas nm.data.toList=nm:=by unfold Sh.bas;simp
theorem gOz {p:PI} {nm:ByteArray} (h:amz T q=some (p,nm)):hyz T q=.tuple #[.agg #[.int .i64 p.1,.int .i64 p.2],.string (bas (nmT T q)),.bool true]:=by
 rw[gaz h,bas_of]
 unfold hyz;rw[h]
theorem eXz {t n:Int} (hw:WfT T) (hK:IsKids T t n K) (hq:q∈K):∃o∈T,idp o=q∧amz T q=some ((t,n),o.nm):=by
 have:=hK.1.mem_iff.1 hq
 unfold bvz at this
 rw[List.mem_map]at this
 obtain⟨o,ho,e⟩:=this
 obtain⟨hoT,hs⟩:=List.mem_filter.1 ho
 obtain⟨s1,s2⟩:=sameB_iff.1 hs
 obtain⟨k,hk,ek⟩:=List.getElem_of_mem hoT
 have hk':T[k]? =some o:=by rw[List.getElem?_eq_getElem hk,ek]
 refine⟨o,hoT,e, ?_⟩
 rw[← e]
 have:=bKz (q:=idp o) (cWz hw.apart hk') hk'
 rw[this,s1,s2]
theorem ipz (h:K.Pairwise avz):K.Nodup:=h.imp λ{a b} hab e=>by rw[e]at hab;exact aYz b hab
theorem dTz {t n:Int} (hT:TOk ls T s) (hK:IsKids T t n K):AP K (K.map (nmT T)):=by
 refine⟨by rw[List.length_map],λq hq=> ?_,λx hx=> ?_,ipz hK.2⟩
 ·obtain⟨o,ho,e,_⟩:=eXz hT.wf hK hq
  rw[← e];exact(hT.ok o ho).1
 ·obtain⟨q,hq,rfl⟩:=List.mem_map.1 hx
  obtain⟨o,ho,e,hp⟩:=eXz hT.wf hK hq
  rw[gaz hp];exact(hT.ok o ho).2
theorem nLz {K':List PI} (h:AP K (K.map f)) (hs:K'.Sublist K):AP K' (K'.map f):=
 ⟨by rw[List.length_map],λq hq=>h.val q (hs.mem hq),λx hx=>by obtain⟨q,hq,rfl⟩:=List.mem_map.1 hx;exact h.nam _ (List.mem_map_of_mem (hs.mem hq)),h.dif.sublist hs⟩
def shQ (K:List PI) (f:PI→List UInt8) (q:PI):List UInt8:=if K.any (λk=>decide (f k=f q)&&lsA k q)=true then f q++bbz q.1 q.2 else f q
theorem dWz (h:i<K.length):idA K i=K[i]:=by unfold Sh.idA;simp[h]
theorem cDz (h:i<K.length):nmA (K.map f) i=f K[i]:=by unfold Sh.nmA;simp[h]
theorem h0z (hn:K.Nodup) (hi:i<K.length):shownAt K (K.map f) K.length i=shQ K f K[i]:=by
 have hk:(coz K (K.map f) K.length i=true)↔¬K.any (λk=>decide (f k=f K[i])&&lsA k K[i])=true:=by
  rw[Sh.kept_iff]
  constructor
  ·intro h ha
   obtain⟨k,hk,e⟩:=List.any_eq_true.1 ha
   obtain⟨j,hj,ej⟩:=List.getElem_of_mem hk
   simp only[Bool.and_eq_true,decide_eq_true_eq]at e
   refine h j hj (Sh.bef_iff.2 ?_)
   rw[cDz hj,cDz hi,dWz hj,dWz hi,ej]
   exact⟨e.1,.inl e.2⟩
  ·intro ha j hj hb
   have:=Sh.bef_iff.1 hb
   rw[cDz hj,cDz hi,dWz hj,dWz hi]at this
   obtain⟨h1,h2|⟨h2,h3⟩⟩:=this
   ·exact ha (List.any_eq_true.2 ⟨K[j],List.getElem_mem _,by simp[h1,h2]⟩)
   ·have h4:K[j]? =K[i]? :=by rw[List.getElem?_eq_getElem hj,List.getElem?_eq_getElem hi,h3]
    have:=(List.getElem?_inj hj hn).1 h4
    omega
 unfold Sh.shownAt shQ
 rw[cDz hi,dWz hi]
 by_cases h:coz K (K.map f) K.length i=true
 ·rw[if_pos h,if_neg (hk.1 h)]
 ·rw[if_neg h,if_pos (by
   cases hc:K.any (λk=>decide (f k=f K[i])&&lsA k K[i])with
   |true=>rfl
   |false=>exact absurd (hk.2 (by rw[hc];decide)) h)]
theorem fUz (hn:K.Nodup):shownL K (K.map f) K.length=K.map (shQ K f):=by
 apply List.ext_getElem
 ·rw[List.length_map];exact Sh.shown_len _ _ _
 ·intro i h1 h2
  rw[List.length_map]at h2
  have:=Sh.shown_at K (K.map f) h2
  rw[List.getElem?_eq_getElem h1]at this
  injection this with this
  rw[this,List.getElem_map,h0z hn h2]
def c4z (s:List UInt8):List UInt8:=match bfz s with
 |some (nm,_)=>nm
 |none=>s
theorem nYz (h:AP K (K.map f)) (hq:q∈K):c4z (shQ K f q)=f q:=by
 obtain⟨i,hi,rfl⟩:=List.getElem_of_mem hq
 rw[← h0z h.dif hi]
 unfold c4z
 cases hk:coz K (K.map f) K.length i with
 |true=>rw[h.split_kept hi hk,Sh.shown_kept hk,cDz hi]
 |false=>rw[h.split_not hi hk,cDz hi]
theorem m9z {x:List UInt8} (hx:f q=x):shQ (K.filter λk=>decide (f k=x)) f q=shQ K f q:=by
 unfold shQ
 have:(K.filter λk=>decide (f k=x)).any (λk=>decide (f k=f q)&&lsA k q)=K.any (λk=>decide (f k=f q)&&lsA k q):=by
  rw[Bool.eq_iff_iff,List.any_eq_true,List.any_eq_true]
  constructor
  ·rintro⟨k,hk,e⟩;exact⟨k,(List.mem_filter.1 hk).1,e⟩
  ·rintro⟨k,hk,e⟩
   simp only[Bool.and_eq_true,decide_eq_true_eq]at e
   refine⟨k,List.mem_filter.2 ⟨hk, ?_⟩,by simp[e.1,e.2]⟩
   rw[decide_eq_true_eq];exact e.1.trans hx
 rw[this]
def bAz (K:List PI) (f:PI→List UInt8) (s:List UInt8):Option PI:=K.find? λq=>decide (shQ K f q=s)
theorem hcz (h:AP K (K.map f)) (s:List UInt8):(K.filter λk=>decide (f k=c4z s)).find? (λq=>decide (shQ (K.filter λk=>decide (f k=c4z s)) f q=s))=bAz K f s:=by
 unfold bAz
 rw[List.find?_filter]
 have:∀(L':List PI),(∀q∈L',q∈K)→L'.find? (λa=>decide (f a=c4z s)&&decide (shQ (K.filter λk=>decide (f k=c4z s)) f a=s))=L'.find? λq=>decide (shQ K f q=s):=by
  intro L'
  induction L' with
  |nil=>intro _;rfl
  |cons q L' ih=>
   intro hs
   have ihh:=ih λx hx=>hs x (List.mem_cons_of_mem _ hx)
   rw[List.find?_cons,List.find?_cons]
   have e:(decide (f q=c4z s)&&decide (shQ (K.filter λk=>decide (f k=c4z s)) f q=s))=decide (shQ K f q=s):=by
    by_cases e1:f q=c4z s
    ·rw[m9z e1];simp[e1]
    ·have:¬shQ K f q=s:=λe2=>e1 (by rw[← e2];exact(nYz h (hs q List.mem_cons_self)).symm)
     simp[e1,this]
   rw[e,ihh]
 have:=this K λq hq=>hq
 simpa using this
end Go.Proofs.YthhakekbffembaaGreatDoor.Ck.Y.W

namespace Go.Proofs.YthhakekbffembaaGreatDoor.Ck.Y.W
open Go.RowKit Go.Maps Go.Lib
open L (a2z a6z anz a5z)
theorem aWz:(Tryz.prog.info? 28).map (·.size)=some 2:=by kernel_rfl
theorem aNz (t n:Int):(#[.int .i64 t,.int .i64 n]:Array Value).all (·.oneCell')=true:=by simp[Value.oneCell']
theorem sk6 {Q:Exit→Act→World→Prop} {base:Array Value} {dd:List Deferred} {ops:Array Oper} (hops:Tryz.f84.body.bind (alz 6)=some ops) (J:World→Prop) (vb bi lo:Nat) (q1 q2 t n:Int) (nm:ByteArray) (ok:Bool) (w9:World) (hsz:base.size=50) (b0:base.getD 0 undef=pO vb) (b1:base.getD 11 undef=pO bi) (hJ:J w9.drew) (hlo:∀W,J W→lo≤W.heap.size) (hJb:∀W W',J W→Below W.heap.size W W'→J W') (hJp:∀W W' bb cs,J W→lo≤bb→W.heap[bb]? =some (.cells cs 28 (0,0))→Only (· =bb) W W'→J W') (hid:∀W,J W→W.cell? ⟨bi,0,none⟩=some (iV q1)∧W.cell? ⟨bi,1,none⟩=some (iV q2)) (hc:∀W,J W→Calls Tryz.prog 40 #[pO vb,.agg #[iV q1,iV q2]] W λe w'=>e=.returned (.tuple #[.agg #[iV t,iV n],.string nm,.bool ok])∧J w'∧Sft W w') (hQ:∀(g:Value) (W:World),J W→Q .normal ⟨abz base ((λg:Value=>([(some 26,pO vb),(some 27,pO vb),(some 28,pO vb),(some 29,.agg #[iV q1,iV q2]),(some 30,.tuple #[.agg #[iV t,iV n],.string nm,.bool ok]),(some 25,.tuple #[.agg #[iV t,iV n],.string nm,.bool ok]),(some 31,.agg #[iV t,iV n]),(some 32,.string nm),(some 33,.bool ok),(some 12,g),(none,undef),(some 13,.string nm),(some 14,.bool ok)]:List (Option Tmp×Value))) g),dd⟩ W):
  (Code.region 6 ops true).wp Tryz.prog Q ⟨base,dd⟩ w9:=by
 have hmix:=hmx
 have h3:=(show Tryz.f84.body.bind (alz 6)=some _ from rfl).symm.trans hops
 obtain rfl:=Option.some.inj h3
 clear h3 hops
 obtain⟨LL,hLe⟩:∃LL:Value→List (Option Tmp×Value),LL=(λg:Value=>([(some 26,pO vb),(some 27,pO vb),(some 28,pO vb),(some 29,.agg #[iV q1,iV q2]),(some 30,.tuple #[.agg #[iV t,iV n],.string nm,.bool ok]),(some 25,.tuple #[.agg #[iV t,iV n],.string nm,.bool ok]),(some 31,.agg #[iV t,iV n]),(some 32,.string nm),(some 33,.bool ok),(some 12,g),(none,undef),(some 13,.string nm),(some 14,.bool ok)]:List (Option Tmp×Value))):=⟨_,rfl⟩
 have vv0:∀g,aaz (LL g) 0=pO vb:=λg=>by rw[hLe];rfl
 have vv1:∀g,aaz (LL g) 1=pO vb:=λg=>by rw[hLe];rfl
 have vv2:∀g,aaz (LL g) 2=pO vb:=λg=>by rw[hLe];rfl
 have vv3:∀g,aaz (LL g) 3=.agg #[iV q1,iV q2]:=λg=>by rw[hLe];rfl
 have vv4:∀g,aaz (LL g) 4=.tuple #[.agg #[iV t,iV n],.string nm,.bool ok]:=λg=>by rw[hLe];rfl
 have vv5:∀g,aaz (LL g) 5=.tuple #[.agg #[iV t,iV n],.string nm,.bool ok]:=λg=>by rw[hLe];rfl
 have vv6:∀g,aaz (LL g) 6=.agg #[iV t,iV n]:=λg=>by rw[hLe];rfl
 have vv7:∀g,aaz (LL g) 7=.string nm:=λg=>by rw[hLe];rfl
 have vv8:∀g,aaz (LL g) 8=.bool ok:=λg=>by rw[hLe];rfl
 have vv9:∀g,aaz (LL g) 9=g:=λg=>by rw[hLe];rfl
 have vv10:∀g,aaz (LL g) 10=undef:=λg=>by rw[hLe];rfl
 have vv11:∀g,aaz (LL g) 11=.string nm:=λg=>by rw[hLe];rfl
 have vv12:∀g,aaz (LL g) 12=.bool ok:=λg=>by rw[hLe];rfl
 refine axz hmix (by kernel_rfl) 50 hsz (by kernel_rfl) undef LL (λg=>by rw[hLe];rfl) (λ(g:Value) (b:Nat→Bool) (W:World)=>J W∧(b 9=true→∃bb cs,g=pO bb∧lo≤bb∧W.heap[bb]? =some (.cells cs 28 (0,0))∧cs.size=2)) ⟨hJ,(λh=>by cases h)⟩ ?_ ?_
 ·rintro g b W io o a ⟨hJW,hS⟩ hcl ho hb hd ev kp yl
  match io with
  |0=>
   simp only[qq]at ho;subst ho;have e0:=(kp 0 (aqz (by kernel_rfl))).trans b0
   refine a9z rfl nofun (v:=pO vb) (w':=W) ?_ ⟨g,λ_ _=>rfl,(vv0 g).symm,⟨hJW,λh=>hS (by rwa [show did b 0 9=b 9 from if_neg (by decide)]at h)⟩⟩
   simp[execOp,go_sem,e0]
  |1=>
   simp only[qq]at ho;subst ho;have e0:=eD ev hd 0 26 (vv0 g)
   refine a9z rfl nofun (v:=pO vb) (w':=W) ?_ ⟨g,λ_ _=>rfl,(vv1 g).symm,⟨hJW,λh=>hS (by rwa [show did b 1 9=b 9 from if_neg (by decide)]at h)⟩⟩
   simp[execOp,go_sem,e0]
  |2=>
   simp only[qq]at ho;subst ho;have e1:=eD ev hd 1 27 (vv1 g)
   refine a9z rfl nofun (v:=pO vb) (w':=W) ?_ ⟨g,λ_ _=>rfl,(vv2 g).symm,⟨hJW,λh=>hS (by rwa [show did b 2 9=b 9 from if_neg (by decide)]at h)⟩⟩
   simp[execOp,go_sem,e1]
  |3=>
   simp only[qq]at ho;subst ho;have e0:=(kp 11 (aqz (by kernel_rfl))).trans b1
   obtain⟨x0,x1⟩:=hid W hJW
   refine a9z rfl nofun (v:=.agg #[iV q1,iV q2]) (w':=W) ?_ ⟨g,λ_ _=>rfl,(vv3 g).symm,⟨hJW,λh=>hS (by rwa [show did b 3 9=b 9 from if_neg (by decide)]at h)⟩⟩
   simp[execOp,go_sem,e0,x0,x1]
  |4=>
   simp only[qq]at ho;subst ho;have e2:=eD ev hd 2 28 (vv2 g);have e3:=eD ev hd 3 29 (vv3 g)
   refine aLz rfl nofun (f:=40) (args:= #[pO vb,.agg #[iV q1,iV q2]]) ?_ ?_
   ·simp[go_sem,e2,e3]
   ·refine(hc W hJW).mono ?_
    rintro e W' ⟨rfl,hj,hs⟩
    refine⟨_,rfl,g,λ_ _=>rfl,(vv4 g).symm,hj,λh=> ?_⟩
    obtain⟨bb,cs,e1,e2,e3,e4⟩:=hS (by rwa [show did b 4 9=b 9 from if_neg (by decide)]at h)
    exact⟨bb,cs,e1,e2,hs.at e3 (by decide),e4⟩
  |5=>
   simp only[qq]at ho;subst ho;have e4:=eD ev hd 4 30 (vv4 g)
   refine a9z rfl nofun (v:=.tuple #[.agg #[iV t,iV n],.string nm,.bool ok]) (w':=W) ?_ ⟨g,λ_ _=>rfl,(vv5 g).symm,⟨hJW,λh=>hS (by rwa [show did b 5 9=b 9 from if_neg (by decide)]at h)⟩⟩
   simp[execOp,go_sem,e4]
  |6=>
   simp only[qq]at ho;subst ho;have e5:=eD ev hd 5 25 (vv5 g)
   refine a9z rfl nofun (v:=.agg #[iV t,iV n]) (w':=W) ?_ ⟨g,λ_ _=>rfl,(vv6 g).symm,⟨hJW,λh=>hS (by rwa [show did b 6 9=b 9 from if_neg (by decide)]at h)⟩⟩
   simp[execOp,go_sem,e5]
  |7=>
   simp only[qq]at ho;subst ho;have e5:=eD ev hd 5 25 (vv5 g)
   refine a9z rfl nofun (v:=.string nm) (w':=W) ?_ ⟨g,λ_ _=>rfl,(vv7 g).symm,⟨hJW,λh=>hS (by rwa [show did b 7 9=b 9 from if_neg (by decide)]at h)⟩⟩
   simp[execOp,go_sem,e5]
  |8=>
   simp only[qq]at ho;subst ho;have e5:=eD ev hd 5 25 (vv5 g)
   refine a9z rfl nofun (v:=.bool ok) (w':=W) ?_ ⟨g,λ_ _=>rfl,(vv8 g).symm,⟨hJW,λh=>hS (by rwa [show did b 8 9=b 9 from if_neg (by decide)]at h)⟩⟩
   simp[execOp,go_sem,e5]
  |9=>
   simp only[qq]at ho;subst ho;have hbn:=(a3z W (.cells #[iV 0,iV 0] 28)).out
   refine a9z rfl nofun (v:=pO W.heap.size) (w':=W.alloc (.cells #[iV 0,iV 0] 28)) ?_ ⟨pO W.heap.size, ?_,(by rw[vv9]),hJb _ _ hJW hbn,λ_=>⟨W.heap.size,_,rfl,hlo W hJW,heap_alloc_new W _,rfl⟩⟩
   ·simp[execOp,go_sem]
   ·intro j hj
    match j,hj with
    |0,_=>rw[vv0,vv0]
    |1,_=>rw[vv1,vv1]
    |2,_=>rw[vv2,vv2]
    |3,_=>rw[vv3,vv3]
    |4,_=>rw[vv4,vv4]
    |5,_=>rw[vv5,vv5]
    |6,_=>rw[vv6,vv6]
    |7,_=>rw[vv7,vv7]
    |8,_=>rw[vv8,vv8]
    |9,h=>rw[hb]at h;cases h
    |10,_=>rw[vv10,vv10]
    |11,_=>rw[vv11,vv11]
    |12,_=>rw[vv12,vv12]
    |k+13,_=>rw[hLe];rfl
  |10=>
   simp only[qq]at ho;subst ho;have p9:=hD hd 9;have e9:=(ev 9 12 rfl p9).trans (vv9 g);have e6:=eD ev hd 6 31 (vv6 g)
   obtain⟨bb,cs,e1,e2,e3,e4⟩:=hS p9
   rw[e1]at e9
   refine Doesg.skip (W.setRow bb #[iV t,iV n]) (by unfold Region.wanted;rfl) nofun ?_ ⟨g,λ_ _=>rfl,(vv10 g).symm,hJp _ _ _ _ hJW e2 e3 ⟨rfl,rfl,rfl,by simp,λk _ hk=>setRow_other W bb k _ hk⟩,λ_=>⟨bb, #[iV t,iV n],e1,e2,setRow_heap W bb _ _ _ _ e3,rfl⟩⟩
   have hs1:=(show a.eval (.tmp 12)=a.tmps[12]?.getD undef by simp[Act.eval]).trans e9;have hs2:=(show a.eval (.tmp 31)=a.tmps[31]?.getD undef by simp[Act.eval]).trans e6;simp only[execOp,hs1,hs2,Instr.storeAt,Instr.sureAddr,Sem.run_bind,Sem.run_pure,Result.andThen_ok,run_storeVar_row W bb 28 28 cs #[iV t,iV n] e3 aWz (by rw[e4];rfl) (aNz _ _)]
  |11=>
   simp only[qq]at ho;subst ho;have e7:=eD ev hd 7 32 (vv7 g)
   refine a9z rfl nofun (v:=.string nm) (w':=W) ?_ ⟨g,λ_ _=>rfl,(vv11 g).symm,⟨hJW,λh=>hS (by rwa [show did b 11 9=b 9 from if_neg (by decide)]at h)⟩⟩
   simp[execOp,go_sem,e7]
  |12=>
   simp only[qq]at ho;subst ho;have e8:=eD ev hd 8 33 (vv8 g)
   refine a9z rfl nofun (v:=.bool ok) (w':=W) ?_ ⟨g,λ_ _=>rfl,(vv12 g).symm,⟨hJW,λh=>hS (by rwa [show did b 12 9=b 9 from if_neg (by decide)]at h)⟩⟩
   simp[execOp,go_sem,e8]
  |k+13=>simp at ho
 ·rintro g b W ⟨hJW,_⟩ hall
  subst hLe
  exact hQ g W hJW
end Go.Proofs.YthhakekbffembaaGreatDoor.Ck.Y.W

namespace Go.Proofs.YthhakekbffembaaGreatDoor.Ck.Y.W
open Go.RowKit Go.Maps Go.Lib
open L (a2z a6z anz a5z)
open Sh (bas Ids Nms strs bIz InI Cs)
variable {w w':World} {base sz n:Nat} {e:TypeId} {v:Value} {xs:List Value} {l:List PI}
theorem czz (h:w.ownsRow base e sz v n xs) (hs:Sft w w') (he:¬okV e):w'.ownsRow base e sz v n xs:=by
 obtain⟨hl,h|⟨g,cap,cur,rfl,h1,hg,h2⟩⟩:=h
 ·exact⟨hl,.inl h⟩
 ·exact⟨hl,.inr ⟨g,cap,cur,rfl,h1,hs.at hg he,h2⟩⟩
theorem dzz (h:RowI w base v l) (hs:Sft w w'):RowI w' base v l:=czz h hs (by decide)
theorem VJ.grown {u:World} {F0:Nat→Prop} {vb:Nat} {nsf:OG→List Int} {bsf:OG→List (BitVec 8)} {m ls:List OG} (h:VJ u F0 vb nsf bsf m ls w) (ho:w.ownsRow base e sz v n xs) (he:¬okV e∧e≠2∧e≠5) (hu:u.heap.size≤base) (hg:w.grownBy w' v.ownBlock):VJ u F0 vb nsf bsf m ls w':=by
 obtain⟨_,⟨rfl,_⟩|⟨g,cap,cur,rfl,h1,hb,_⟩⟩:=ho
 ·exact h.below ⟨hg.os,hg.tape,hg.output,hg.size,λk hk=>hg.block k hk (λe=>by cases e)⟩
 ·exact h.put hb he.1 he.2 (Nat.le_trans hu h1) ⟨hg.os,hg.tape,hg.output,hg.size,λk hk hn=>hg.block k hk (λe=>hn (by cases e;rfl))⟩
theorem bcz (h:RowI w base v l):∃p c,v=.slice p l.length c∧∀(i:Nat) (x:PI),l[i]? =some x→∃g,p=some ⟨g,0,none⟩∧w.cell? ⟨g,i*2,none⟩=some (.int .i64 x.1)∧w.cell? ⟨g,i*2+1,none⟩=some (.int .i64 x.2):=by
 rcases h.2 with⟨rfl,h0⟩|⟨g,cap,cur,rfl,hb,hg,hn,hm,hs,ht⟩
 ·exact⟨none,0,by rw[h0],λi x hx=>by have:=List.eq_nil_of_length_eq_zero h0;subst this;simp at hx⟩
 ·exact⟨_,cap,rfl,λi x hx=>⟨g,rfl,RowI.cells h hx⟩⟩
structure Stp (p:Prop):Prop where
 out:p
def aEz (T:List OB) (x:List UInt8) (K:List PI):List PI:=K.filter λk=>decide (nmT T k=x)
theorem fhz {T:List OB} {x:List UInt8} {K:List PI} {i:Nat} {q:PI} (hq:K[i]? =some q):aEz T x (K.take (i+1))=if nmT T q=x then aEz T x (K.take i)++[q]else aEz T x (K.take i):=by
 unfold aEz
 rw[List.take_add_one,hq,Option.toList_some,List.filter_append]
 by_cases h:nmT T q=x
 ·rw[if_pos h];simp[h]
 ·rw[if_neg h];simp[h]
theorem fPz {T:List OB} {x:List UInt8} {K:List PI} {i:Nat}:(aEz T x (K.take i)).length≤K.length:=Nat.le_trans (List.length_filter_le _ _) (by rw[List.length_take];omega)
theorem dgz {b b1:Nat} {v':Value} (h:RowI w b v l) (hoff:∀g,v.ownBlock=some g→g<b1) (ho:w.ownsRow b1 e sz v' n xs) (hg:w.grownBy w' v'.ownBlock):RowI w' b v l:=by
 obtain⟨hl,h|⟨g,cap,cur,rfl,h1,hb,h2⟩⟩:=h
 ·exact⟨hl,.inl h⟩
 ·refine⟨hl,.inr ⟨g,cap,cur,rfl,h1,(hg.block g (block_lt hb) λe=> ?_).trans hb,h2⟩⟩
  have hlt:=hoff g rfl
  rcases ho.2 with⟨rfl,_⟩|⟨g',cap',cur',rfl,hb',_⟩
  ·cases e
  ·have:g=g':=by injection e
   omega
structure SkI (w:World) (F:Nat→Prop) (vb:Nat) (nsf:OG→List Int) (bsf:OG→List (BitVec 8)) (m ls:List OG) (T:List OB) (x:List UInt8) (b1:Nat) (vk:Value) (K:List PI) (vi vn:Value) (i:Nat) (wr:World):Prop where
 vj:VJ w F vb nsf bsf m ls wr
 row:RowI wr w.heap.size vk K
 ids:wr.ownsRow b1 28 2 vi (aEz T x (K.take i)).length (bIz (aEz T x (K.take i)))
 nms:wr.ownsRow b1 9 1 vn (aEz T x (K.take i)).length (strs ((aEz T x (K.take i)).map (nmT T)))
 b1w:w.heap.size≤b1
 b1r:b1≤wr.heap.size
 off:∀g,vk.ownBlock=some g→g<b1
theorem asz {ops:Array Oper} {rest:List Oper} {o:Oper} {a:Act} {Q:Exit→Act→World→Prop} (hgd:o.guard=none) (ty:TypeId) (x y:Operand) (ho:o.op=.store ty x y)
  (g:Nat) (cells:Array Value) (hx:a.eval x=.pointer (some ⟨g,0,none⟩)) (hy:a.eval y=.agg cells) (t:TypeId) (old:Array Value) (hg:Hid (w.heap[g]? =some (.cells old t (0,0)))) (hi:(Tryz.prog.info? ty).map (·.size)=some cells.size) (hold:old.size=cells.size) (h1:cells.all (·.oneCell')=true) (h:∀w',Hid (w'.heap[g]? =some (.cells cells t (0,0))∧Only (· =g) w w'∧w'.heap.size=w.heap.size)→wpList Tryz.prog ops Q rest (a.put o.dst undef) w'):wpList Tryz.prog ops Q (o::rest) a w:=
 wpList_store_row hgd ty x y ho g cells hx hy t old hg.out hi hold h1 (h _ ⟨setRow_heap w g _ _ t _ hg.out,⟨rfl,rfl,rfl,by simp,λk _ hk=>setRow_other w g k cells hk⟩,by simp⟩)
theorem d8z {b b':Nat} (h:RowI w b v l) (hb:b'≤b):RowI w b' v l:=by
 obtain⟨hl,h|⟨g,cap,cur,e,h1,h2⟩⟩:=h
 ·exact⟨hl,.inl h⟩
 ·exact⟨hl,.inr ⟨g,cap,cur,e,Nat.le_trans hb h1,h2⟩⟩
theorem VW.sakes {F:Nat→Prop} {vb s:Nat} {nsf:OG→List Int} {bsf:OG→List (BitVec 8)} {m ls:List OG} {T:List OB} (h:VW F w vb nsf bsf m ls) (hT:TOk ls T s) (t n:Int) (x:List UInt8) (hL:∀W,Only F w W→Sh.Lb W) {K:List PI} (hK:IsKids T t n K):
  Calls Tryz.prog 84 #[.pointer (some ⟨vb,0,none⟩),idv t n,.string (bas x)] w λe w'=>(∃p1 c1 p2 c2,e=.returned (.tuple #[.slice p1 (aEz T x K).length c1,.slice p2 (aEz T x K).length c2])∧Ids w' p1 (aEz T x K)∧Nms w' p2 ((aEz T x K).map (shQ (aEz T x K) (nmT T))))∧VJ w F vb nsf bsf m ls w':=by
 have HB:Hid (Below w.heap.size w (w.alloc (.cells #[.int .i64 t,.int .i64 n] 28)).drew):=a2z (a3z w _).out (a6z _)
 have c:=((h.below HB.out).tkids hT.fold t n).mono λe w' (k:_∧VJ _ _ _ _ _ _ _ _)=>(⟨k.1,k.2.of_below HB.out⟩:kVz (w.alloc (.cells #[.int .i64 t,.int .i64 n] 28)).drew T t n e w'∧VJ w F vb nsf bsf m ls w')
 have HT:=a0z (agz hT (agz hK hL))
 clear h hT hL hK
 go_enter Tryz.func84,Tryz.ntmps84
 go_wp2_with fail
 go_region_with (go_at_call 88;refine c.mono ?_;rintro e w1 ⟨⟨v,K',rfl,h1,h2,h3⟩,h4⟩;obtain⟨pk,ck,rfl,_⟩:=bcz h1;have H1:=a0z (agz h1 (agz h2 (agz h3 h4)));clear h1 h2 h3 h4)
 all_goals
  have HKe:Hid (K'=K):=H1.out.2.1.unique HT.out.2.1
  go_wp2_with fail
  have HS0:Hid (SkI w F vb nsf bsf m ls T x w1.heap.size (.slice pk K'.length ck) K' (.slice none 0 0) (.slice none 0 0) 0 w1):=
   ⟨H1.out.2.2.2,d8z H1.out.1 (by simp),World.ownsRow_nil _ _ _ _,World.ownsRow_nil _ _ _ _,H1.out.2.2.2.size,Nat.le_refl _,λg hg=>by obtain⟨cs,hc,_⟩:=H1.out.1.tag hg;exact block_lt hc⟩
  simp only[Act.put,List.getElem_toArray,List.getElem_cons_succ,List.getElem_cons_zero,List.setIfInBounds_toArray,List.set_cons_zero,List.set_cons_succ]
  go_loopw [8,9,21] (λvi vn ii wr=>∃(i:Nat) (pi pn:Option Addr) (ci cn:Nat),vi=.slice pi (aEz T x (K'.take i)).length ci∧vn=.slice pn (aEz T x (K'.take i)).length cn∧ii=.int .i64 i∧i≤K'.length∧Hid (SkI w F vb nsf bsf m ls T x w1.heap.size (.slice pk K'.length ck) K' vi vn i wr)) (λ_ _ ii _=>K'.length-(RowKit.intOf ii).toNat)
  case atStart=>exact⟨0,none,none,0,0,by simp[aEz],by simp[aEz],rfl,Nat.zero_le _,HS0⟩
  case round=>
   obtain⟨i,pi,pn,ci,cn,rfl,rfl,rfl,hi,HI⟩:=hrel
   rename World=>wo
   have hK9:K'.length≤900:=H1.out.2.2.1
   by_cases hlt:i<K'.length
   ·have hltI:(i:Int)<(K'.length:Int):=by omega
    obtain⟨q,hq⟩:∃q,K'[i]? =some q:=⟨_,List.getElem?_eq_getElem hlt⟩
    have HQ:=a0z hq
    obtain⟨p1,c1,e1,hc1⟩:=bcz HI.out.row
    cases e1
    obtain⟨g1,rfl,x0,x1⟩:=hc1 i q hq
    clear hc1 hq
    obtain⟨k,hk⟩:∃k,(aEz T x (K'.take i)).length=k:=⟨_,rfl⟩
    have HK:=a0z hk
    rw[hk]
    clear hk
    go_wp2_with (refine asz rfl 28 _ _ rfl wo.heap.size (#[.int .i64 q.1,.int .i64 q.2]) rfl rfl 28 _ (heap_alloc_new wo _) aWz rfl (aNz _ _) ?_;intro w5 H5;refine Stp.out ?_)
    refine Stp.mk ?_
    have hS5:Sft wo w5:=⟨by have:=H5.out.2.2;simp at this;omega,λb cs t' fr hb _=>(H5.out.2.1.block b (by have:=block_lt hb;simp;omega) (by have:=block_lt hb;omega)).trans (((a3z wo _).out.block b (block_lt hb)).trans hb)⟩
    have hv5:VJ w F vb nsf bsf m ls w5:=(HI.out.vj.below (a3z wo (.cells #[.int .i64 0,.int .i64 0] 28)).out).put (heap_alloc_new wo _) (by decide) (by decide) HI.out.vj.size H5.out.2.1
    have H5':Hid (VJ w F vb nsf bsf m ls w5∧Sft wo w5∧w5.heap[wo.heap.size]? =some (.cells #[.int .i64 q.1,.int .i64 q.2] 28 (0,0))∧wo.heap.size<w5.heap.size):=⟨hv5,hS5,H5.out.1,block_lt H5.out.1⟩
    clear hS5 hv5
    obtain⟨oq,hoq,eq,hplq⟩:=eXz HT.out.1.wf H1.out.2.1 (List.mem_of_getElem? HQ.out)
    have hpar:=gOz hplq
    have HP:Hid (∀W,VJ w F vb nsf bsf m ls W→Calls Tryz.prog 40 #[.pointer (some ⟨vb,0,none⟩),idv q.1 q.2] W λe w'=>e=.returned (.tuple #[.agg #[.int .i64 t,.int .i64 n],.string (bas (nmT T q)),.bool true])∧VJ w F vb nsf bsf m ls w'∧Sft W w'):=λW hW=>
     hW.call λF' hF'=>by have:=hF'.parent HT.out.1.fold q.1 q.2;rw[hpar]at this;exact this
    have hnl:(nmT T q).length≤64:=by rw[gaz hplq];exact Sh.name_len (HT.out.1.ok oq hoq).2
    clear hoq eq hplq hpar x0 x1
    obtain⟨nq,hnq⟩:∃nq,nmT T q=nq:=⟨_,rfl⟩
    have HNQ:=a0z hnq
    rw[hnq]at HP hnl
    clear hnq
    go_wp2_with fail
    refine sk6 (by kernel_rfl) (λW=>VJ w F vb nsf bsf m ls W∧Sft w5 W) vb wo.heap.size w5.heap.size q.1 q.2 t n (bas nq) true w5 rfl rfl rfl ⟨H5'.out.1.below (a6z _),Sft.below (a6z _)⟩ (λW hW=>hW.2.1) (λW W' hW hb=>⟨hW.1.below hb,hW.2.trans (Sft.below hb)⟩) (λW W' bb cs hW hlo hbb ho=>⟨hW.1.put hbb (by decide) (by decide) (Nat.le_trans H5'.out.1.size hlo) ho,⟨Nat.le_trans hW.2.1 ho.size,λb cs' t' fr hb hn=>(ho.block b (Nat.lt_of_lt_of_le (block_lt hb) hW.2.1) λe=>by have:=block_lt hb;have e:b=bb:=e;omega).trans (hW.2.at hb hn)⟩⟩)
     (λW hW=>⟨cellOf (hW.2.at H5'.out.2.2.1 (by decide)) 0,cellOf (hW.2.at H5'.out.2.2.1 (by decide)) 1⟩) (λW hW=>(HP.out W hW.1).mono λe w' h=>⟨h.1,⟨h.2.1,hW.2.trans h.2.2⟩,h.2.2⟩) ?_
    intro gp w7 hJ7
    have H7:Hid (VJ w F vb nsf bsf m ls w7∧Sft wo w7∧w7.heap[wo.heap.size]? =some (.cells #[.int .i64 q.1,.int .i64 q.2] 28 (0,0))):=⟨hJ7.1,H5'.out.2.1.trans hJ7.2,hJ7.2.at H5'.out.2.2.1 (by decide)⟩
    clear hJ7 HP
    simp only[abz,sA,sB,sC]
    have hqq:=Sh.bas_beq nq x
    have d0:w7.cell? ⟨wo.heap.size,0,none⟩=some (.int .i64 q.1):=cellOf H7.out.2.2 0
    have d1:w7.cell? ⟨wo.heap.size,1,none⟩=some (.int .i64 q.2):=cellOf H7.out.2.2 1
    by_cases hx:nq=x
    ·have hq':((bas nq).toList==(bas x).toList)=true:=by rw[hqq];exact decide_eq_true hx
     have HX:=a0z hx
     clear hqq hx
     have r0:=dzz HI.out.row H7.out.2.1
     have i0:=czz HI.out.ids H7.out.2.1 (by decide)
     have n0:=czz HI.out.nms H7.out.2.1 (by decide)
     rw[HK.out]at i0 n0
     have hb7:w1.heap.size≤w7.heap.size:=Nat.le_trans HI.out.b1r H7.out.2.1.1
     have hk9:k≤900:=by have:=HK.out;have:= @fPz T x K' i;omega
     have HA:=Sh.happI (W:=w7) (base:=w1.heap.size) q.1 q.2 i0 hb7 (by omega)
     have HR:=(show Hid (RowI w7 w.heap.size (.slice (some ⟨g1,0,none⟩) K'.length ck) K'∧w7.ownsRow w1.heap.size 9 1 (.slice pn k cn) k (strs ((aEz T x (K'.take i)).map (nmT T))))from⟨r0,n0⟩)
     clear r0 i0 n0
     go_wp2_with (first
      |(at_builtin;refine Sh.wpList_appG rfl _ _ rfl Tryz.underlying96 Sh.ti_id w1.heap.size (.slice pi k ci) k 1 _ _ (some ⟨w7.heap.size,0,none⟩) 1 rfl rfl HA ?_;intro p8 c8 w8 H8;have HN8:=Sh.own_other (Sh.own_below HR.out.2 (a3z w7 (.cells #[.int .i64 q.1,.int .i64 q.2] 28)).out) HA.out.1 (by decide) H8.out.2;have HA2:=Sh.happ (W:=w8) (base:=w1.heap.size) (bas nq) HN8 (Nat.le_trans (by simp;omega) H8.out.2.size) (by omega);clear HN8)
      |(at_builtin;refine Sh.wpList_appG rfl _ _ rfl Tryz.underlying53 Sh.ti_str w1.heap.size (.slice pn k cn) k 1 _ _ (some ⟨w8.heap.size,0,none⟩) 1 rfl rfl HA2 ?_;intro p9 c9 w9 H9;refine Stp.out ?_))
     refine Stp.mk ?_
     have hsn:aEz T x (K'.take (i+1))=aEz T x (K'.take i)++[q]:=by rw[fhz HQ.out,if_pos (HNQ.out.trans HX.out)]
     have hln:(aEz T x (K'.take (i+1))).length=k+1:=by rw[hsn,List.length_append,HK.out];rfl
     have hv8:=(H7.out.1.below (a3z w7 (.cells #[.int .i64 q.1,.int .i64 q.2] 28)).out).grown HA.out.1 (by decide) HI.out.b1w H8.out.2
     have hv9:=(hv8.below (a3z w8 (.cells #[.string (bas nq)] 9)).out).grown HA2.out.1 (by decide) HI.out.b1w H9.out.2
     have hr8:=dgz (HR.out.1.below (a3z w7 (.cells #[.int .i64 q.1,.int .i64 q.2] 28)).out) HI.out.off HA.out.1 H8.out.2
     have hr9:=dgz (hr8.below (a3z w8 (.cells #[.string (bas nq)] 9)).out) HI.out.off HA2.out.1 H9.out.2
     have hi9:=Sh.own_other (Sh.own_below H8.out.1 (a3z w8 (.cells #[.string (bas nq)] 9)).out) HA2.out.1 (by decide) H9.out.2
     have hs9:w1.heap.size≤w9.heap.size:=by have:=H8.out.2.size;have:=H9.out.2.size;simp at*;omega
     have HS9:Hid (SkI w F vb nsf bsf m ls T x w1.heap.size (.slice (some ⟨g1,0,none⟩) K'.length ck) K' (.slice p8 (k+1) c8) (.slice p9 (k+1) c9) (i+1) w9):=by
      refine⟨hv9,hr9, ?_, ?_,HI.out.b1w,hs9,HI.out.off⟩
      ·rw[hln,hsn,Sh.idsC_append];exact hi9
      ·rw[hln,hsn]
       have e:strs ((aEz T x (K'.take i)++[q]).map (nmT T))=strs ((aEz T x (K'.take i)).map (nmT T))++[.string (bas nq)]:=by simp[Sh.strs,HNQ.out]
       rw[e];exact H9.out.1
     have HLN:=a0z hln
     clear hsn hln hv8 hv9 hr8 hr9 hi9 hs9 HA HA2 H8 H9
     go_wp2_with fail
     exact⟨⟨i+1,p8,p9,c8,c9,by rw[HLN.out],by rw[HLN.out],by simp,by omega,HS9.out⟩,by simp[RowKit.intOf];omega⟩
    ·have hq':((bas nq).toList==(bas x).toList)=false:=by rw[hqq];exact decide_eq_false hx
     have HX:=a0z hx
     have hsn:aEz T x (K'.take (i+1))=aEz T x (K'.take i):=by rw[fhz HQ.out,if_neg (λe=>HX.out (HNQ.out.symm.trans e))]
     have HS9:Hid (SkI w F vb nsf bsf m ls T x w1.heap.size (.slice (some ⟨g1,0,none⟩) K'.length ck) K' (.slice pi k ci) (.slice pn k cn) (i+1) w7):=by
      refine⟨H7.out.1,dzz HI.out.row H7.out.2.1, ?_, ?_,HI.out.b1w,Nat.le_trans HI.out.b1r H7.out.2.1.1,HI.out.off⟩
      ·rw[hsn,HK.out];have:=czz HI.out.ids H7.out.2.1 (by decide);rw[HK.out]at this;exact this
      ·rw[hsn,HK.out];have:=czz HI.out.nms H7.out.2.1 (by decide);rw[HK.out]at this;exact this
     have HLN:Hid ((aEz T x (K'.take (i+1))).length=k):=by rw[hsn];exact HK.out
     clear hqq hx hsn d0 d1
     go_wp2_with fail
     exact⟨⟨i+1,pi,pn,ci,cn,by rw[HLN.out],by rw[HLN.out],by simp,by omega,HS9.out⟩,by simp[RowKit.intOf];omega⟩
   ·obtain rfl:i=K'.length:=by omega
    have e:=HKe.out
    have hK':K'.take K'.length=K:=by rw[List.take_length,e]
    rw[hK']at HI⊢
    have hap:Sh.AP (aEz T x K) ((aEz T x K).map (nmT T)):=nLz (dTz HT.out.1 HT.out.2.1) List.filter_sublist
    obtain⟨k,hk⟩:∃k,(aEz T x K).length=k:=⟨_,rfl⟩
    have HI':Hid (wo.ownsRow w1.heap.size 28 2 (.slice pi k ci) k (bIz (aEz T x K))∧wo.ownsRow w1.heap.size 9 1 (.slice pn k cn) k (strs ((aEz T x K).map (nmT T)))∧VJ w F vb nsf bsf m ls wo):=by
     have:=HI.out
     rw[hk]at this
     exact⟨by have:=this.ids;rwa [hK',hk]at this,by have:=this.nms;rwa [hK',hk]at this,this.vj⟩
    have cS:∀W,Below wo.heap.size wo W→Calls Tryz.prog 89 #[.slice pi k ci,.slice pn k cn] W λe w'=>∃p,e=.returned (.slice p k k)∧Hid (Nms w' p ((aEz T x K).map (shQ (aEz T x K) (nmT T)))∧Below wo.heap.size wo w'):=λW hW=>by
     obtain⟨q1,d1,f1,hc1⟩:=Cs.of_own (Sh.own_below HI'.out.1 hW)
     obtain⟨q2,d2,f2,hc2⟩:=Cs.of_own (Sh.own_below HI'.out.2.1 hW)
     obtain⟨_,_,g1,l1⟩:=Sh.own_slice HI'.out.1
     obtain⟨_,_,g2,l2⟩:=Sh.own_slice HI'.out.2.1
     cases f1;cases f2;cases g1;cases g2
     have hnl:((aEz T x K).map (nmT T)).length=k:=by rw[List.length_map,hk]
     have:=Sh.shown_any (aEz T x K) ((aEz T x K).map (nmT T)) pi pn ci cn W ((HT.out.2.2 wo HI'.out.2.2.only).below hW) (Sh.ids_of_cs hc1) (Sh.nms_of_cs hc2) (by rw[hk];exact l1) (by rw[hnl];exact l2) (by have:= @fPz T x K' K'.length;rw[hK',hk]at this;omega) hap.ins hap.lens
     rw[hnl,hk,Nat.min_self]at this
     refine this.mono ?_
     rintro e w' ⟨p,rfl,hn⟩
     refine⟨p,rfl, ?_,a2z hW hn.out.2⟩
     have e1:=hn.out.1
     rw[← hk,fUz hap.dif]at e1
     exact e1
    have HKL:=a0z hk
    rw[hk]
    clear hk hap hK' e HI HKe HS0
    go_wp2_with (go_at_call 89;refine(cS _ (by first|exact Below.refl _ _|exact a6z _)).mono ?_;rintro e w3 ⟨p3,rfl,H3⟩)
    go_ret2
    refine⟨⟨pi,ci,p3,k,by rw[HKL.out];rfl, ?_,H3.out.1⟩,HI'.out.2.2.below H3.out.2⟩
    obtain⟨q1,d1,f1,hc1⟩:=Cs.of_own (Sh.own_below HI'.out.1 H3.out.2)
    cases f1
    exact Sh.ids_of_cs hc1
end Go.Proofs.YthhakekbffembaaGreatDoor.Ck.Y.W
