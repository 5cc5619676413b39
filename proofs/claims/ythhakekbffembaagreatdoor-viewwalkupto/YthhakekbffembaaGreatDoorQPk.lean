import Derived.Test.YthhakekbffembaaGreatDoorKPj
set_option maxRecDepth 8000
set_option maxHeartbeats 4000000

namespace Go.Proofs.YthhakekbffembaaGreatDoor.Ck.Y
open Go.RowKit Go.Maps Go.Lib
theorem dmz {w:World} {p:Addr} {v:Value} (h:w.cell? p=some v) (o:Obj):(w.alloc o).cell? p=some v:=by
 obtain⟨b,k,s⟩:=p
 have hb:Below w.heap.size w (w.alloc o):=(Below.refl w.heap.size w).alloc (Nat.le_refl _) o
 refine(hb.cell (p:=⟨b,k,s⟩) ?_).trans h
 by_cases hlt:b<w.heap.size
 ·exact hlt
 ·simp[World.cell?,Array.getElem?_eq_none (Nat.le_of_not_lt hlt)]at h
theorem lMz {Q:Exit→Act→World→Prop} {base:Array Value} {dd:List Deferred} {ops:Array Oper} (hops:Tryz.f27.body.bind (alz 8)=some ops) (gt bx len cp at_:Nat) (p:Option Addr) (x:OG) (PS:Nat→World→Prop) (PN:Nat→Option Addr×Nat×Nat→World→World→Prop) (w9:World) (hsz:base.size=51) (b0:base.getD 0 undef=pO gt) (b3:base.getD 3 undef=pO bx) (b6:base.getD 6 undef=iV (at_:Nat))
  (g1:w9.cell? ⟨gt,1,none⟩=some (.slice p len cp))
  (x0:w9.cell? ⟨bx,0,none⟩=some (iV x.t))
  (x1:w9.cell? ⟨bx,1,none⟩=some (iV x.n))
  (x2:w9.cell? ⟨bx,2,none⟩=some (iV x.sq))
  (x3:w9.cell? ⟨bx,3,none⟩=some (iV x.kd))
  (x4:w9.cell? ⟨bx,4,none⟩=some (iV x.ot))
  (x5:w9.cell? ⟨bx,5,none⟩=some (iV x.on))
  (x6:w9.cell? ⟨bx,6,none⟩=some (iV x.pt))
  (x7:w9.cell? ⟨bx,7,none⟩=some (iV x.pn))
  (x8:w9.cell? ⟨bx,8,none⟩=some (.string x.nm))
  (x9:w9.cell? ⟨bx,9,none⟩=some (.slice x.dp x.dl x.dc))
  (x10:w9.cell? ⟨bx,10,none⟩=some (.slice x.sp x.sl x.sc)) (hc1:Calls Tryz.prog 72 #[pO gt,b2z x] w9.drew λe W'=>∃sb,e=.returned (pO sb)∧PS sb W') (hkS:∀sb W,PS sb W→W.cell? ⟨gt,1,none⟩=some (.slice p len cp)) (hc2:∀sb W1,PS sb W1→Calls Tryz.prog 71 #[.slice p len cp,iV (at_:Nat),.slice (some ⟨W1.heap.size,0,none⟩) 1 1] (W1.alloc (.cells #[pO sb] 117)) λe W'=>∃y,e=.returned (.slice y.1 y.2.1 y.2.2)∧PN sb y W1 W') (hkI:∀sb y W1 W2,PN sb y W1 W2→(W2.cell? ⟨gt,1,none⟩).isSome=true∧W2.frozen? ⟨gt,1,none⟩=false) (hQ:∀(g:Nat×(Option Addr×Nat×Nat)×World×World) (W:World),((PS g.1 g.2.2.1∧PN g.1 g.2.1 g.2.2.1 g.2.2.2)∧W=g.2.2.2.setCell ⟨gt,1,none⟩ (.slice g.2.1.1 g.2.1.2.1 g.2.1.2.2))→Q .normal ⟨abz base ((λg:Nat×(Option Addr×Nat×Nat)×World×World=>([(some 37,pO gt),(some 38,pO gt),(some 39,pO gt),(some 40,.pointer (some ⟨gt,1,none⟩)),(some 41,.slice p len cp),(some 42,iV (at_:Nat)),(some 43,pO gt),(some 44,b2z x),(some 45,pO g.1),(some 46,.slice (some ⟨g.2.2.1.heap.size,0,none⟩) 1 1),(some 47,.slice g.2.1.1 g.2.1.2.1 g.2.1.2.2),(some 48,pO gt),(some 49,.pointer (some ⟨gt,1,none⟩)),(none,undef)]:List (Option Tmp×Value))) g),dd⟩ W):
  (Code.region 8 ops true).wp Tryz.prog Q ⟨base,dd⟩ w9:=by
 have hmix:=hmx
 have h2:=(show Tryz.f27.body.bind (alz 8)=some _ from rfl).symm.trans hops
 obtain rfl:=Option.some.inj h2
 clear h2 hops
 have cK:∀(g:Nat×(Option Addr×Nat×Nat)×World×World) (W:World),W=w9.drew→Calls Tryz.prog 72 #[pO gt,b2z x] W λe W'=>∃x,e=.returned (pO x)∧PS x W':=λg W hW=>by rw[hW];exact hc1
 have cK2:∀(g:Nat×(Option Addr×Nat×Nat)×World×World) (W:World),(PS g.1 g.2.2.1∧W=g.2.2.1.alloc (.cells #[pO g.1] 117))→Calls Tryz.prog 71 #[.slice p len cp,iV (at_:Nat),.slice (some ⟨g.2.2.1.heap.size,0,none⟩) 1 1] W λe W'=>∃x,e=.returned (.slice x.1 x.2.1 x.2.2)∧PS g.1 g.2.2.1∧PN g.1 x g.2.2.1 W':=λg W hW=>by
  rw[hW.2]
  exact(hc2 _ _ hW.1).mono λe W' ⟨y,h1,h2⟩=>⟨y,h1,hW.1,h2⟩
 obtain⟨LL,hLe⟩:=qG hQ
 have vv:=λg=>aV (congrFun hLe g)
 simp only[AV,Nat.zero_add,Nat.reduceAdd,and_true,forall_and]at vv
 obtain⟨vv0,vv1,vv2,vv3,vv4,vv5,vv6,vv7,vv8,vv9,vv10,vv11,vv12,vv13⟩:=vv
 refine axz hmix (by kernel_rfl) 51 hsz (by kernel_rfl) (0,(none,0,0),w9,w9) LL (λg=>by rw[hLe];rfl) (λ(g:Nat×(Option Addr×Nat×Nat)×World×World) (b:Nat→Bool) (W:World)=>if b 13=true then((PS g.1 g.2.2.1∧PN g.1 g.2.1 g.2.2.1 g.2.2.2)∧W=g.2.2.2.setCell ⟨gt,1,none⟩ (.slice g.2.1.1 g.2.1.2.1 g.2.1.2.2))else if b 10=true then((PS g.1 g.2.2.1∧PN g.1 g.2.1 g.2.2.1 g.2.2.2)∧W=g.2.2.2)else if b 9=true then(PS g.1 g.2.2.1∧W=g.2.2.1.alloc (.cells #[pO g.1] 117))else if b 8=true then(PS g.1 g.2.2.1∧W=g.2.2.1)else(W=w9.drew)) ?_ ?_ ?_
 ·simp only[Bool.false_eq_true,if_false]
 ·intro g b W io Oo a hS hcl ho hb hd ev kp yl
  have q10_4:b 10=true→b 4=true:=qH hcl 10 4 id
  have q13_10:b 13=true→b 10=true:=qH hcl 13 10 id
  have q13_4:b 13=true→b 4=true:=qH hcl 10 4 q13_10
  have q9_8:b 9=true→b 8=true:=qH hcl 9 8 id
  have q10_9:b 10=true→b 9=true:=qH hcl 10 9 id
  have q10_8:b 10=true→b 8=true:=qH hcl 9 8 q10_9
  have q13_9:b 13=true→b 9=true:=qH hcl 10 9 q13_10
  have q13_8:b 13=true→b 8=true:=qH hcl 9 8 q13_9
  have q8_7:b 8=true→b 7=true:=qH hcl 8 7 id
  have q9_7:b 9=true→b 7=true:=qH hcl 8 7 q9_8
  have q10_7:b 10=true→b 7=true:=qH hcl 8 7 q10_8
  have q13_7:b 13=true→b 7=true:=qH hcl 8 7 q13_8
  have ch0:b 9=true→b 8=true:=λh=>hcl 9 _ rfl h ⟨8,.data⟩ (by simp) rfl
  have ch1:b 10=true→b 9=true:=λh=>hcl 10 _ rfl h ⟨9,.data⟩ (by simp) rfl
  have ch2:b 13=true→b 10=true:=λh=>hcl 13 _ rfl h ⟨10,.data⟩ (by simp) rfl
  have Vv:=aV (congrFun hLe g);have Ee:=aE (congrFun hLe g) rfl ev
  have e0:=(kp 0 (aqz (by kernel_rfl))).trans b0
  have e6:=(kp 6 (aqz (by kernel_rfl))).trans b6
  simp only[AV,AE,Nat.zero_add,Nat.reduceAdd,and_true]at Vv Ee
  match io with
  |0|1|2|3|5|6|11|12=>simp only[qq]at ho;subst ho;have hd:=aD hd;simp only[AD,and_true]at hd;refine a9z rfl nofun ?_ ⟨g,λ_ _=>rfl,rfl,by simpa[did]using hS⟩;simp only[Vv];simp[execOp,go_sem,Ee,e0,e6,hd]
  |4=>
   simp only[qq]at ho;subst ho;have e40:=eD ev hd 3 40 (vv3 g);have n10:=nF q10_4 hb;have n13:=nF q13_4 hb
   have hl:W.cell? ⟨gt,1,none⟩=some (.slice p len cp):=by
    have hS2:if b 9=true then(PS g.1 g.2.2.1∧W=g.2.2.1.alloc (.cells #[pO g.1] 117))else if b 8=true then(PS g.1 g.2.2.1∧W=g.2.2.1)else W=w9.drew:=by simpa[n10,n13]using hS
    split at hS2
    ·rw[hS2.2];exact dmz (hkS _ _ hS2.1) _
    ·split at hS2
     ·rw[hS2.2];exact hkS _ _ hS2.1
     ·rw[hS2];exact g1
   refine a9z rfl nofun (v:=.slice p len cp) (w':=W) ?_ ⟨g,λ_ _=>rfl,(vv4 g).symm,by simpa[did]using hS⟩
   ·simp[execOp,go_sem,e40,hl]
  |7=>
   simp only[qq]at ho;subst ho;have e3:=(kp 3 (aqz (by kernel_rfl))).trans b3;have n8:=nF q8_7 hb;have n9:=nF q9_7 hb;have n10:=nF q10_7 hb;have n13:=nF q13_7 hb;have hW:W=w9.drew:=by simpa[n8,n9,n10,n13]using hS
   have hl0:W.cell? ⟨bx,0,none⟩=some (iV x.t):=by rw[hW];exact x0
   have hl1:W.cell? ⟨bx,1,none⟩=some (iV x.n):=by rw[hW];exact x1
   have hl2:W.cell? ⟨bx,2,none⟩=some (iV x.sq):=by rw[hW];exact x2
   have hl3:W.cell? ⟨bx,3,none⟩=some (iV x.kd):=by rw[hW];exact x3
   have hl4:W.cell? ⟨bx,4,none⟩=some (iV x.ot):=by rw[hW];exact x4
   have hl5:W.cell? ⟨bx,5,none⟩=some (iV x.on):=by rw[hW];exact x5
   have hl6:W.cell? ⟨bx,6,none⟩=some (iV x.pt):=by rw[hW];exact x6
   have hl7:W.cell? ⟨bx,7,none⟩=some (iV x.pn):=by rw[hW];exact x7
   have hl8:W.cell? ⟨bx,8,none⟩=some (.string x.nm):=by rw[hW];exact x8
   have hl9:W.cell? ⟨bx,9,none⟩=some (.slice x.dp x.dl x.dc):=by rw[hW];exact x9
   have hl10:W.cell? ⟨bx,10,none⟩=some (.slice x.sp x.sl x.sc):=by rw[hW];exact x10
   refine a9z rfl nofun (v:=b2z x) (w':=W) ?_ ⟨g,λ_ _=>rfl,(vv7 g).symm,by simpa[did]using hS⟩
   ·simp[execOp,go_sem,e3,hl0,hl1,hl2,hl3,hl4,hl5,hl6,hl7,hl8,hl9,hl10]
  |8=>
   simp only[qq]at ho;subst ho;have e43:=eD ev hd 6 43 (vv6 g);have e44:=eD ev hd 7 44 (vv7 g);have n9:=nF q9_8 hb;have n10:=nF q10_8 hb;have n13:=nF q13_8 hb;have hS9:W=w9.drew:=by simpa[n9,n10,n13,hb]using hS
   refine aLz rfl nofun (f:=72) (args:= #[pO gt,b2z x]) ?_ ?_
   ·simp[go_sem,e43,e44]
   ·refine(cK g W hS9).mono ?_
    rintro e W' ⟨x,rfl,hP⟩
    refine⟨_,rfl,(x,g.2.1,W',g.2.2.2), ?_,(vv8 (x,g.2.1,W',g.2.2.2)).symm, ?_⟩
    ·intro j hj
     match j,hj with
     |8,h=>exact absurd (h.symm.trans hb) (by decide)
     |9,h=>exact absurd ((hcl 9 _ rfl (h) ⟨8,.data⟩ (by simp) rfl).symm.trans hb) (by decide)
     |j+14,_=>subst hLe;rfl
     |0,_|1,_|2,_|3,_|4,_|5,_|6,_|7,_|10,_|11,_|12,_|13,_=>subst hLe;rfl
    ·simpa[did,n9,n10,n13]using hP
  |9=>
   simp only[qq]at ho;subst ho;have p8:=hD hd 8;have e45:=(ev 8 45 rfl p8).trans (vv8 g);have n10:=nF q10_9 hb;have n13:=nF q13_9 hb;have hS9:PS g.1 g.2.2.1∧W=g.2.2.1:=by simpa[n10,n13,hb,p8]using hS
   obtain⟨W',hr,hP⟩:=(⟨_,trivial,hS9.1,rfl⟩:∃W',True∧PS g.1 g.2.2.1∧W'=g.2.2.1.alloc (.cells #[pO g.1] 117))
   refine a9z rfl nofun (v:=.slice (some ⟨g.2.2.1.heap.size,0,none⟩) 1 1) (w':=W') ?_ ⟨g, ?_,(vv9 _).symm, ?_⟩
   ·rw[hS9.2,hP.2];simp[execOp,go_sem,e45]
   ·exact λ_ _=>rfl
   ·simpa[did,n10,n13]using hP
  |10=>
   simp only[qq]at ho;subst ho;have p9:=hD hd 9;have e41:=eD ev hd 4 41 (vv4 g);have e42:=eD ev hd 5 42 (vv5 g);have e46:=(ev 9 46 rfl p9).trans (vv9 g);have n13:=nF q13_10 hb;have hS9:PS g.1 g.2.2.1∧W=g.2.2.1.alloc (.cells #[pO g.1] 117):=by simpa[n13,hb,p9]using hS
   refine aLz rfl nofun (f:=71) (args:= #[.slice p len cp,iV (at_:Nat),.slice (some ⟨g.2.2.1.heap.size,0,none⟩) 1 1]) ?_ ?_
   ·simp[go_sem,e41,e42,e46]
   ·refine(cK2 g W hS9).mono ?_
    rintro e W' ⟨x,rfl,hP⟩
    refine⟨_,rfl,(g.1,x,g.2.2.1,W'), ?_,(vv10 (g.1,x,g.2.2.1,W')).symm, ?_⟩
    ·intro j hj
     match j,hj with
     |10,h=>exact absurd (h.symm.trans hb) (by decide)
     |j+14,_=>subst hLe;rfl
     |0,_|1,_|2,_|3,_|4,_|5,_|6,_|7,_|8,_|9,_|11,_|12,_|13,_=>subst hLe;rfl
    ·simpa[did,n13]using hP
  |13=>
   simp only[qq]at ho;subst ho;have p10:=hD hd 10;have e49:=eD ev hd 12 49 (vv12 g);have e47:=(ev 10 47 rfl p10).trans (vv10 g);have hS9:(PS g.1 g.2.2.1∧PN g.1 g.2.1 g.2.2.1 g.2.2.2)∧W=g.2.2.2:=by simpa[hb,p10]using hS
   obtain⟨W',hr,hP⟩:=(⟨_,trivial,hS9.1,rfl⟩:∃W',True∧(PS g.1 g.2.2.1∧PN g.1 g.2.1 g.2.2.1 g.2.2.2)∧W'=g.2.2.2.setCell ⟨gt,1,none⟩ (.slice g.2.1.1 g.2.1.2.1 g.2.1.2.2))
   refine blz rfl nofun (w':=W') ?_ ⟨g,λ_ _=>rfl,(vv13 _).symm, ?_⟩
   ·(obtain⟨hP1,hP2⟩:=hP;obtain⟨c9,hc9⟩:=Option.isSome_iff_exists.1 (hkI _ _ _ _ hP1.2).1;have f9:=(hkI _ _ _ _ hP1.2).2;rw[hS9.2,hP2];simp[execOp,go_sem,e49,e47,hc9,f9])
   ·simpa[did]using hP
  |k+14=>simp at ho
 ·intro g b W hS hall
  have hl9:b 13=true:=hall 13 (by decide)
  subst hLe
  exact hQ g W (by simpa[hl9]using hS)
end Go.Proofs.YthhakekbffembaaGreatDoor.Ck.Y

namespace Go.Proofs.YthhakekbffembaaGreatDoor.Ck.Y
open Go.RowKit Go.Maps Go.Lib
def aTz (T:List OB) (q:PI):Bool:=aGz q.1 q.2||awz q.1 q.2||(aoz T q.1 q.2).isSome
def b8z (B:List PI) (bl:PI→Nat) (T:List OB):List (PI×Nat):=(B++T.map idp).map λq=>(q,bl q)
def exF (F:Nat→Prop) (mb:Nat):Nat→Prop:=λb=>F b∧b≠mb
structure TreeM (F:Nat→Prop) (w:World) (mb:Nat) (B U:List PI) (bl:PI→Nat) (kv:PI→Value) (dr:PI→Bool) (T:List OB):Prop where
 objs:ObjsM (exF F mb) w U bl kv dr (amz T) (amz T)
 map:MapAt w mb (b8z B bl T)
 fmb:F mb
 bb:B=[(0,0),(0,1)]∨B=[(0,1),(0,0)]
 rt:(0,0)∈U∧(0,1)∈U
 ids:∀o∈T,idp o∈U
 drs:dr (0,0)=true∧dr (0,1)=true∧∀o∈T,dr (idp o)=o.dir
 wf:WfT T
theorem eDz (bl:PI→Nat) (q:PI):∀l:List PI,atM (l.map λq=>(q,bl q)) q=if q∈l then some (bl q)else none
 |[]=>by simp[atM]
 |x::l=>by
  have ih:=eDz bl q l
  unfold atM at ih⊢
  by_cases e:x=q
  ·subst e;simp
  ·have:¬q=x:=λh=>e h.symm
   rw[List.map_cons,List.find?_cons]
   simp only[e,decide_false]
   rw[ih]
   simp[this]
section
variable {F:Nat→Prop} {w w':World} {mb:Nat} {B U:List PI} {bl:PI→Nat} {kv:PI→Value} {dr:PI→Bool} {T:List OB}
theorem mem_find {q:PI}:q∈T.map idp↔(aoz T q.1 q.2).isSome=true:=by
 constructor
 ·intro h
  obtain⟨o,ho,e⟩:=List.mem_map.1 h
  cases hf:aoz T q.1 q.2 with
  |some k=>rfl
  |none=>exact absurd ⟨congrArg Prod.fst e,congrArg Prod.snd e⟩ (f2z hf o ho)
 ·intro h
  obtain⟨k,hk⟩:=Option.isSome_iff_exists.1 h
  obtain⟨o,ho,e1,e2⟩:=aCz hk
  exact List.mem_map.2 ⟨o,List.mem_of_getElem? ho,Prod.ext e1 e2⟩
theorem TreeM.mem (h:TreeM F w mb B U bl kv dr T) (q:PI):q∈B++T.map idp↔aTz T q=true:=by
 rw[List.mem_append,mem_find]
 unfold aTz
 rw[Bool.or_eq_true,Bool.or_eq_true]
 have:q∈B↔aGz q.1 q.2=true∨awz q.1 q.2=true:=by
  obtain⟨a,b⟩:=q
  rcases h.bb with e|e<;>rw[e]<;>simp[aGz,awz,or_comm]
 rw[this]
theorem TreeM.look (h:TreeM F w mb B U bl kv dr T) (t n:Int):(Instr.lookup 71 (.map (some mb)) (idv t n) false).run Tryz.prog w=.ok (if aTz T (t,n)=true then .pointer (some ⟨bl (t,n),0,none⟩)else .pointer none) w:=by
 rw[kFz h.map t n]
 unfold b8z
 rw[eDz]
 by_cases e:aTz T (t,n)=true
 ·rw[if_pos ((h.mem _).2 e),if_pos e];rfl
 ·rw[if_neg (λh'=>e ((h.mem _).1 h')),if_neg e];rfl
theorem TreeM.inU (h:TreeM F w mb B U bl kv dr T) {q:PI} (hq:aTz T q=true):q∈U:=by
 unfold aTz at hq
 rw[Bool.or_eq_true,Bool.or_eq_true]at hq
 rcases hq with(hq|hq)|hq
 ·have:q=(0,0):=by obtain⟨a,b⟩:=q;simpa[aGz]using hq
  rw[this];exact h.rt.1
 ·have:q=(0,1):=by obtain⟨a,b⟩:=q;simpa[awz]using hq
  rw[this];exact h.rt.2
 ·obtain⟨o,ho,e⟩:=List.mem_map.1 (mem_find.2 hq)
  rw[← e];exact h.ids o ho
theorem TreeM.isdir (h:TreeM F w mb B U bl kv dr T) (q:PI):aAz T q.1 q.2=(aTz T q&&dr q):=by
 unfold aAz aTz
 cases h1:aGz q.1 q.2 with
 |true=>
  have:q=(0,0):=by obtain⟨a,b⟩:=q;simpa[aGz]using h1
  rw[this];simp[h.drs.1]
 |false=>
  cases h2:awz q.1 q.2 with
  |true=>
   have:q=(0,1):=by obtain⟨a,b⟩:=q;simpa[awz]using h2
   rw[this];simp[h.drs.2.1]
  |false=>
   cases hf:aoz T q.1 q.2 with
   |none=>rfl
   |some k=>
    obtain⟨o,ho,e1,e2⟩:=aCz hf
    have:=h.drs.2.2 o (List.mem_of_getElem? ho)
    have eq:idp o=q:=Prod.ext e1 e2
    rw[eq]at this
    simp[ho,this]
theorem TreeM.par (h:TreeM F w mb B U bl kv dr T):∀q∈U,∀p nm,amz T q=some (p,nm)→p∈U:=λq _ p nm hp=>by
 obtain⟨k,o,hf,ho,e1,e2,e3⟩:=caz hp
 have:=h.wf.home o (List.mem_of_getElem? ho)
 have hd:=h.isdir (o.pt,o.pn)
 rw[this]at hd
 have hh:aTz T (o.pt,o.pn)=true:=(Bool.and_eq_true_iff.1 hd.symm).1
 rw[e2]at hh
 exact h.inU hh
theorem TreeM.par_ne (h:TreeM F w mb B U bl kv dr T) {q p:PI} {nm:ByteArray} (hp:amz T q=some (p,nm)):p≠q:=by
 intro e
 subst e
 exact h.wf.rank.self p (.one (by rw[d7z,hp];rfl))
theorem TreeM.kept {S:Nat→Prop} (h:TreeM F w mb B U bl kv dr T) (ho:Only S w w') (hn:∀b,F b→¬S b):TreeM F w' mb B U bl kv dr T:=
 ⟨h.objs.kept ho λb hb=>hn b hb.1,h.map.kept ho (hn _ h.fmb),h.fmb,h.bb,h.rt,h.ids,h.drs,h.wf⟩
theorem TreeM.below (h:TreeM F w mb B U bl kv dr T) (hb:Below w.heap.size w w'):TreeM F w' mb B U bl kv dr T:=h.kept (Below.only hb (λ_=>False)) λ_ _ f=>f
theorem TreeM.mono {F':Nat→Prop} (h:TreeM F w mb B U bl kv dr T) (hn:∀b,F b→F' b):TreeM F' w mb B U bl kv dr T:=
 ⟨h.objs.mono λb hb=>⟨hn b hb.1,hb.2⟩,h.map,hn _ h.fmb,h.bb,h.rt,h.ids,h.drs,h.wf⟩
end
theorem atz {S S':Nat→Prop} {w w':World} (h:Only S w w') (hs:∀b,S b→S' b):Only S' w w':=⟨h.os,h.tape,h.output,h.size,λi hi hn=>h.block i hi λe=>hn (hs i e)⟩
def ewz (w:World) (mk gt:Nat) (bl:PI→Nat) (o:OG):Prop:=w.heap[mk]? =some (.cells #[.pointer (some ⟨gt,0,none⟩),.pointer (some ⟨bl (o.ot,o.on),0,none⟩),.int .i64 o.pt,.int .i64 o.pn,.string o.nm] 158 (0,0))
def lFz (F:Nat→Prop) (mb:Nat) (B U:List PI) (bl:PI→Nat) (dr:PI→Bool) (T:List OB) (o:OG) (w w':World) (r:Bool) (T':List OB):Prop:=
 (∀s,StepT T s o T' (if r=true then s else s+1))∧(∃kv',TreeM (ajz F w w') w' mb B U bl kv' dr T')∧Only F w w'
theorem kGz {F:Nat→Prop} {w:World} {mb:Nat} {B U:List PI} {bl:PI→Nat} {kv:PI→Value} {dr:PI→Bool} {T:List OB} (h:TreeM F w mb B U bl kv dr T) (hF:∀b,F b→b<w.heap.size) (gt mk:Nat) (o:OG) (hg:w.cell? ⟨gt,0,none⟩=some (.map (some mb))) (hm:ewz w mk gt bl o) (hmF:¬F mk) (hkd:o.kd=1∨o.kd=2) (hdr:dr (o.ot,o.on)=decide (o.kd=1)) (hq:(o.ot,o.on)∈U) (hf:aoz T o.ot o.on=none) (h0:¬o.ot=0) (hp:awz o.pt o.pn=false):
  Calls Tryz.prog 107 #[.pointer (some ⟨mk,0,none⟩)] w λe w'=>∃r T',e=.returned (.bool r)∧lFz F mb B U bl dr T o w w' r T':=by
 have m0:w.cell? ⟨mk,0,none⟩=some (.pointer (some ⟨gt,0,none⟩)):=cellOf hm 0
 have m2:w.cell? ⟨mk,2,none⟩=some (.int .i64 o.pt):=cellOf hm 2
 have m3:w.cell? ⟨mk,3,none⟩=some (.int .i64 o.pn):=cellOf hm 3
 have HH:Hid (TreeM F w mb B U bl kv dr T∧(∀b,F b→b<w.heap.size)∧w.cell? ⟨gt,0,none⟩=some (.map (some mb))∧ewz w mk gt bl o):=⟨h,hF,hg,hm⟩
 have hdir:=h.isdir (o.pt,o.pn)
 have hinU:aTz T (o.pt,o.pn)=true→(o.pt,o.pn)∈U:=λe=>h.inU e
 clear h hF hm
 go_enter Tryz.func107,Tryz.ntmps107
 go_wp2_with fail
 refine mMz (by kernel_rfl) mk gt mb o.pt o.pn _ _ rfl rfl m0 m2 m3 hg (λW hW=>(HH.out.1.below hW).look o.pt o.pn) ?_
 intro W1 hB1
 have h1:=HH.out.1.below hB1
 have hmW:ewz W1 mk gt bl o:=(hB1.block _ (block_lt HH.out.2.2.2)).trans HH.out.2.2.2
 have hgW:W1.cell? ⟨gt,0,none⟩=some (.map (some mb)):=(hB1.cell (p:=⟨gt,0,none⟩) (a4z hg)).trans hg
 have HW:Hid (Below w.heap.size w W1):=hB1
 simp only[abz,sA,sB,sC]
 clear m0 m2 m3
 have skip:(aTz T (o.pt,o.pn)&&dr (o.pt,o.pn))=false→lFz F mb B U bl dr T o w W1 false T:=λe=>
  ⟨λs=>.made hkd (.inr (.inl (hdir.trans e))),⟨kv,h1.mono λb hb=>.inl hb⟩,Below.only HW.out F⟩
 cases hh:aTz T (o.pt,o.pn)with
 |false=>
  have HS:Hid (lFz F mb B U bl dr T o w W1 false T):=skip (by rw[hh];rfl)
  clear h1 hmW hgW hB1 skip hdir hinU
  simp only[Bool.false_eq_true,if_false]
  go_wp2_with fail
  go_ret
  exact⟨false,T,rfl,HS.out⟩
 |true=>
  have hpU:=hinU hh
  have c4:W1.cell? ⟨bl (o.pt,o.pn),4,none⟩=some (.bool (dr (o.pt,o.pn))):=h1.objs.cell hpU 4
  simp only[if_true]
  cases hd:dr (o.pt,o.pn)with
  |false=>
   have HS:Hid (lFz F mb B U bl dr T o w W1 false T):=skip (by rw[hd,hh];rfl)
   rw[hd]at c4
   clear h1 hmW hgW hB1 skip hdir hinU
   go_wp2_with fail
   go_ret
   exact⟨false,T,rfl,HS.out⟩
  |true=>
   rw[hd]at c4
   have hdir':aAz T o.pt o.pn=true:=hdir.trans (by rw[hh,hd];rfl)
   have hstep:∀s,StepT T s o (T++[bFz o]) s:=λs=>.make hkd hp hdir' hf
   have hmb:=h1.map.lt
   have hpq:(o.pt,o.pn)≠(o.ot,o.on):=λe=>by
    have e1:=congrArg Prod.fst e
    have e2:=congrArg Prod.snd e
    simp only at e1 e2
    unfold aTz at hh
    simp only[e1,e2,hf]at hh
    simp[aGz,awz,h0]at hh
   obtain⟨WE,hrun,hmap,honly,hsz⟩:=d6z (w:=W1.drew) (mb:=mb) (E:=b8z B bl T) (by exact h1.map.kept (S:=λ_=>False) ⟨rfl,rfl,rfl,Nat.le_refl _,λ_ _ _=>rfl⟩ (λf=>f)) o.ot o.on (bl (o.ot,o.on)) (by
    unfold b8z
    rw[eDz,if_neg]
    intro hx
    have:=(h1.mem _).1 hx
    unfold aTz at this
    simp[aGz,awz,h0,hf]at this)
   have m0:W1.cell? ⟨mk,0,none⟩=some (.pointer (some ⟨gt,0,none⟩)):=cellOf hmW 0
   have m1:W1.cell? ⟨mk,1,none⟩=some (.pointer (some ⟨bl (o.ot,o.on),0,none⟩)):=cellOf hmW 1
   have o2:W1.cell? ⟨bl (o.ot,o.on),2,none⟩=some (.int .i64 o.ot):=h1.objs.cell hq 2
   have o3:W1.cell? ⟨bl (o.ot,o.on),3,none⟩=some (.int .i64 o.on):=h1.objs.cell hq 3
   have honly1:Only (· =mb) W1 WE:=⟨honly.os,honly.tape,honly.output,honly.size,honly.block⟩
   have hE:ObjsM (exF F mb) WE U bl kv dr (amz T) (amz T):=h1.objs.kept honly1 λb hb=>hb.2
   have hFE:∀b,exF F mb b→b<WE.heap.size:=λb hb=>by have:=HH.out.2.1 b hb.1;have:=HW.out.size;have:WE.heap.size=W1.heap.size:=hsz;omega
   have hmE:ewz WE mk gt bl o:=(honly1.block _ (block_lt hmW) (λe=>hmF (by rw[e];exact h1.fmb))).trans hmW
   have hput:=nRz (p2:=(o.pt,o.pn)) (nm2:=o.nm) (w:=WE.drew) (hE.below ⟨rfl,rfl,rfl,Nat.le_refl _,λ_ _=>rfl⟩) hFE hq (ehz hf) hpU hpq
   have HG:Hid (TreeM F W1 mb B U bl kv dr T∧Only (· =mb) W1 WE∧MapAt WE mb (b8z B bl T++[((o.ot,o.on),bl (o.ot,o.on))])∧(∀s,StepT T s o (T++[bFz o]) s)∧WE.heap.size=W1.heap.size):=⟨h1,honly1,hmap,hstep,hsz⟩
   have n1:WE.cell? ⟨mk,1,none⟩=some (.pointer (some ⟨bl (o.ot,o.on),0,none⟩)):=cellOf hmE 1
   have n4:WE.cell? ⟨mk,4,none⟩=some (.string o.nm):=cellOf hmE 4
   clear h1 hmW hB1 skip hdir hinU hstep hmap honly honly1 hE hFE hmE hmb
   go_wp2_with fail
   refine mnz (by kernel_rfl) mk gt mb (bl (o.ot,o.on)) o.ot o.on WE _ rfl rfl m0 m1 hgW o2 o3 hrun ?_
   rintro _ W4 hW4
   rw[hW4]
   clear hW4 W4
   simp only[abz,sA,sB,sC]
   clear m0 m1 o2 o3 hgW c4 hrun
   go_wp2_with fail
   refine nvz (by kernel_rfl) mk (bl (o.ot,o.on)) (bl (o.pt,o.pn)) o.nm (λW=>∃kv',ObjsM (ajz (exF F mb) WE.drew W) W U bl kv' dr (b7z (amz T) (o.ot,o.on) (some ((o.pt,o.pn),o.nm))) (b7z (amz T) (o.ot,o.on) (some ((o.pt,o.pn),o.nm)))∧Only (exF F mb) WE.drew W) _ rfl rfl rfl n1 n4 hput ?_
   rintro _ W5 ⟨kv',hO5,hOn5⟩
   have HR:Hid (lFz F mb B U bl dr T o w W5 true (T++[bFz o])):=by
    obtain⟨h1,ho1,hmap,hstep,hsz⟩:=HG.out
    have hOn5':Only (exF F mb) WE W5:=⟨hOn5.os,hOn5.tape,hOn5.output,hOn5.size,hOn5.block⟩
    have hmb:=h1.map.lt
    refine⟨hstep,⟨kv',⟨?_, ?_,.inl h1.fmb,h1.bb,h1.rt,λx hx=> ?_,⟨h1.drs.1,h1.drs.2.1,λx hx=> ?_⟩,h1.wf.step (hstep 0) h0⟩⟩, ?_⟩
    ·have e:amz (T++[bFz o])=b7z (amz T) (o.ot,o.on) (some ((o.pt,o.pn),o.nm)):=ejz (x:=bFz o) hf
     rw[e]
     refine hO5.mono λb hb=> ?_
     have hw1:=HW.out.size
     rcases hb with hb|hb
     ·exact⟨.inl hb.1,hb.2⟩
     ·have:WE.heap.size≤b:=hb.1
      exact⟨.inr ⟨by omega,hb.2⟩,by omega⟩
    ·have e:b8z B bl (T++[bFz o])=b8z B bl T++[((o.ot,o.on),bl (o.ot,o.on))]:=by
      unfold b8z
      simp only[List.map_append,List.map_cons,List.map_nil,List.append_assoc]
      rfl
     rw[e]
     exact hmap.kept hOn5' (λhb=>hb.2 rfl)
    ·rcases List.mem_append.1 hx with hx|hx
     ·exact h1.ids x hx
     ·rw[List.mem_singleton.1 hx];exact hq
    ·rcases List.mem_append.1 hx with hx|hx
     ·exact h1.drs.2.2 x hx
     ·rw[List.mem_singleton.1 hx];exact hdr
    ·have a1:Only F w W1:=Below.only HW.out F
     have a2:Only F W1 WE:=atz ho1 λb hb=>by rw[hb];exact h1.fmb
     have a3:Only F WE W5:=atz hOn5' λb hb=>hb.1
     exact(a1.next a2).next a3
   clear HG hO5 hOn5 hput n1 n4
   simp only[abz,sA,sB,sC]
   go_wp2_with fail
   go_ret
   exact⟨true,_,rfl,HR.out⟩
end Go.Proofs.YthhakekbffembaaGreatDoor.Ck.Y

namespace Go.Proofs.YthhakekbffembaaGreatDoor.Ck.Y
open Go.RowKit Go.Maps Go.Lib
variable {w:World} {F:Nat→Prop} {mb:Nat} {B U:List PI} {bl:PI→Nat} {kv:PI→Value} {dr:PI→Bool} {T:List OB}
theorem jxz (w:World):Only (λ_=>False) w w.drew:=⟨rfl,rfl,rfl,Nat.le_refl _,λ_ _ _=>rfl⟩
theorem dKz {S:Nat→Prop} {w':World} (h:Only S w.drew w'):Only S w w':=⟨h.os,h.tape,h.output,h.size,h.block⟩
theorem kUz (gt mk:Nat) (o:OG) (h:TreeM F w mb B U bl kv dr (T++[bFz o])) (hF:∀b,F b→b<w.heap.size) (hg:w.cell? ⟨gt,0,none⟩=some (.map (some mb))) (hm:ewz w mk gt bl o) (hgF:¬F gt) (hmF:¬F mk) (hf:aoz T o.ot o.on=none) (h0:¬o.ot=0) (hwf:WfT T):
  Calls Tryz.prog 108 #[.pointer (some ⟨mk,0,none⟩)] w λe w'=>e=.returned (.tuple #[])∧(∃kv',TreeM (ajz F w w') w' mb B U bl kv' dr T)∧Only F w w':=by
 have m1:w.cell? ⟨mk,1,none⟩=some (.pointer (some ⟨bl (o.ot,o.on),0,none⟩)):=cellOf hm 1
 have hq:(o.ot,o.on)∈U:=h.ids (bFz o) (by simp)
 have hpl:amz (T++[bFz o])=b7z (amz T) (o.ot,o.on) (some ((o.pt,o.pn),o.nm)):=ejz (x:=bFz o) hf
 have hpf:amz (T++[bFz o]) (o.ot,o.on)=some ((o.pt,o.pn),o.nm):=by rw[hpl,aSz]
 have hback:b7z (amz (T++[bFz o])) (o.ot,o.on) none=amz T:=by
  rw[hpl,dpz]
  have:=fXz (amz T) (o.ot,o.on)
  rwa [ehz hf]at this
 have hput:=ogz h.objs (λb hb=>hF b hb.1) hq hpf (h.par _ hq _ _ hpf) (h.par_ne hpf)
 rw[hback]at hput
 have HH:=a0z (agz h (agz hF (agz hg hm)))
 clear h hF hg hm hpl hpf hback
 go_enter Tryz.func108,Tryz.ntmps108
 go_wp2_with (go_at_call 150;refine hput.mono ?_;rintro e W1 ⟨rfl,kv',hO1,hOn1⟩;have HO:=a0z (agz hO1 hOn1);clear hO1 hOn1 hput)
 obtain⟨h,hF,hg,hm⟩:=HH.out
 obtain⟨hO1,hOn1⟩:=HO.out
 have hm1:ewz W1 mk gt bl o:=(hOn1.block _ (block_lt hm) (λe=>hmF e.1)).trans hm
 have m0:W1.cell? ⟨mk,0,none⟩=some (.pointer (some ⟨gt,0,none⟩)):=cellOf hm1 0
 have m1:W1.cell? ⟨mk,1,none⟩=some (.pointer (some ⟨bl (o.ot,o.on),0,none⟩)):=cellOf hm1 1
 have hg1:W1.cell? ⟨gt,0,none⟩=some (.map (some mb)):=b1z hOn1 hg λe=>hgF e.1
 have o2:W1.cell? ⟨bl (o.ot,o.on),2,none⟩=some (.int .i64 o.ot):=hO1.cell hq 2
 have o3:W1.cell? ⟨bl (o.ot,o.on),3,none⟩=some (.int .i64 o.on):=hO1.cell hq 3
 have hents:b8z B bl (T++[bFz o])=b8z B bl T++[((o.ot,o.on),bl (o.ot,o.on))]:=by
  unfold b8z
  simp only[List.map_append,List.map_cons,List.map_nil,List.append_assoc]
  rfl
 have hmap1:MapAt W1.drew mb (b8z B bl T++[((o.ot,o.on),bl (o.ot,o.on))]):=by
  rw[← hents]
  exact(h.map.kept hOn1 (λe=>e.2 rfl)).kept (jxz W1) (λf=>f)
 have hno:atM (b8z B bl T) (o.ot,o.on)=none:=by
  unfold b8z
  rw[eDz,if_neg]
  intro hx
  rcases List.mem_append.1 hx with hx|hx
  ·rcases h.bb with e|e<;>rw[e]at hx<;>simp[h0]at hx
  ·have:=mem_find.1 hx
   simp only[hf]at this
   cases this
 obtain⟨WE,hrun,hmapE,honly,hsz⟩:∃W,(∀ty,(Builtin.delete_ #[71,28] ty #[.map (some mb),idv o.ot o.on]).run Tryz.prog W1.drew=.ok (.tuple #[]) W)∧MapAt W mb (b8z B bl T)∧Only (· =mb) W1.drew W∧W.heap.size=W1.drew.heap.size:=by
  obtain⟨W,h1,h2,h3,h4⟩:=nkz hmap1 hno 0
  exact⟨W,λty=>h1,h2,h3,h4⟩
 have HR:Hid ((∃kv',TreeM (ajz F w WE) WE mb B U bl kv' dr T)∧Only F w WE):=by
  have ho1:Only (· =mb) W1 WE:=dKz honly
  have hsz':WE.heap.size=W1.heap.size:=hsz
  have hmb:=h.map.lt
  have hs1:=hOn1.size
  refine⟨⟨kv',⟨?_,hmapE,.inl h.fmb,h.bb,h.rt,λx hx=>h.ids x (List.mem_append.2 (.inl hx)),⟨h.drs.1,h.drs.2.1,λx hx=>h.drs.2.2 x (List.mem_append.2 (.inl hx))⟩,hwf⟩⟩, ?_⟩
  ·refine(hO1.kept ho1 (λb hb e=> ?_)).mono λb hb=> ?_
   ·rcases hb with hb|hb
    ·exact hb.2 e
    ·omega
   ·rcases hb with hb|hb
    ·exact⟨.inl hb.1,hb.2⟩
    ·exact⟨.inr ⟨hb.1,by omega⟩,by omega⟩
  ·exact(atz hOn1 λb hb=>hb.1).next (atz ho1 λb hb=>by rw[hb];exact h.fmb)
 clear h hF hg hm hO1 hOn1 hm1 hents hmap1 hno hmapE honly hsz
 refine niz (by kernel_rfl) mk gt mb (bl (o.ot,o.on)) o.ot o.on WE _ rfl rfl m0 m1 hg1 o2 o3 hrun ?_
 rintro _ W4 hW4
 rw[hW4]
 clear hW4 W4 m0 m1 hg1 o2 o3 hrun
 simp only[abz,sA,sB,sC]
 go_wp2_with fail
 go_end0
 exact⟨rfl,HR.out⟩
def MvAt (w:World) (mv gt:Nat) (o:OG) (fu:Value) (fn:ByteArray):Prop:=w.heap[mv]? =some (.cells #[.pointer (some ⟨gt,0,none⟩),.int .i64 o.ot,.int .i64 o.on,.int .i64 o.pt,.int .i64 o.pn,.string o.nm,fu,.string fn] 161 (0,0))
theorem MvAt.set {mv gt:Nat} {o:OG} {fu:Value} {fn:ByteArray} (h:MvAt w mv gt o fu fn) (fu':Value) (fn':ByteArray):MvAt ((w.setCell ⟨mv,6,none⟩ fu').setCell ⟨mv,7,none⟩ (.string fn')) mv gt o fu' fn':=a7z (k:=7) (a7z (k:=6) h fu') (.string fn')
theorem bVz (w:World) (b i j:Nat) (u v:Value):Only (· =b) w ((w.setCell ⟨b,i,none⟩ u).setCell ⟨b,j,none⟩ v):=(Only.setCell (S:=(· =b)) w ⟨b,i,none⟩ u rfl).next (Only.setCell (S:=(· =b)) _ ⟨b,j,none⟩ v rfl)
structure izz (F:Nat→Prop) (mb:Nat) (B U:List PI) (bl:PI→Nat) (dr:PI→Bool) (T:List OB) (o:OG) (mv gt:Nat) (fu:Value) (fn:ByteArray) (w w':World) (r:Bool) (T':List OB):Prop where
 step:∀s,StepT T s o T' (if r=true then s else s+1)
 tree:∃kv',TreeM (ajz F w w') w' mb B U bl kv' dr T'
 only:Only (λb=>F b∨b=mv) w w'
 yes:r=true→∃k b,aoz T o.ot o.on=some k∧T[k]? =some b∧T'=T.set k (aQz o b)∧MvAt w' mv gt o (.pointer (some ⟨bl (b.pt,b.pn),0,none⟩)) b.nm
 no:r=false→MvAt w' mv gt o fu fn
theorem lDz (h:TreeM F w mb B U bl kv dr T) (hF:∀b,F b→b<w.heap.size) (gt mv:Nat) (o:OG) (fu:Value) (fn:ByteArray) (hg:w.cell? ⟨gt,0,none⟩=some (.map (some mb))) (hm:MvAt w mv gt o fu fn) (hmF:¬F mv) (hkd:o.kd=3) (h0:¬o.ot=0):
  Calls Tryz.prog 109 #[.pointer (some ⟨mv,0,none⟩)] w λe w'=>∃r T',e=.returned (.bool r)∧izz F mb B U bl dr T o mv gt fu fn w w' r T':=by
 have m0:w.cell? ⟨mv,0,none⟩=some (.pointer (some ⟨gt,0,none⟩)):=cellOf hm 0
 have m1:w.cell? ⟨mv,1,none⟩=some (.int .i64 o.ot):=cellOf hm 1
 have m2:w.cell? ⟨mv,2,none⟩=some (.int .i64 o.on):=cellOf hm 2
 have m3:w.cell? ⟨mv,3,none⟩=some (.int .i64 o.pt):=cellOf hm 3
 have m4:w.cell? ⟨mv,4,none⟩=some (.int .i64 o.pn):=cellOf hm 4
 have HH:=a0z (agz h (agz hF hm))
 have hdir:=h.isdir (o.pt,o.pn)
 have hinU:aTz T (o.pt,o.pn)=true→(o.pt,o.pn)∈U:=λe=>h.inU e
 have hhq:aTz T (o.ot,o.on)=(aoz T o.ot o.on).isSome:=by unfold aTz;simp[aGz,awz,h0]
 have hinQ:aTz T (o.ot,o.on)=true→(o.ot,o.on)∈U:=λe=>h.inU e
 clear h hF hm
 go_enter Tryz.func109,Tryz.ntmps109
 go_wp2_with fail
 refine mLz (by kernel_rfl) mv gt mb o.ot o.on o.pt o.pn _ _ _ rfl rfl m0 m1 m2 m3 m4 hg (λW hW=>(HH.out.1.below hW).look o.ot o.on) (λW hW=>(HH.out.1.below hW).look o.pt o.pn) ?_
 intro W1 hB1
 have h1:=HH.out.1.below hB1
 have hm1:MvAt W1 mv gt o fu fn:=(hB1.block _ (block_lt HH.out.2.2)).trans HH.out.2.2
 have HW:=a0z hB1
 clear m0 m1 m2 m3 m4 hg
 simp only[abz,sA,sB,sC]
 have skip:(aoz T o.ot o.on=none∨aAz T o.pt o.pn=false∨(o.pt=o.ot∧o.pn=o.on)∨Bel T (o.pt,o.pn) (o.ot,o.on))→izz F mb B U bl dr T o mv gt fu fn w W1 false T:=λe=>
  ⟨λs=>.moved hkd e,⟨kv,h1.mono λb hb=>.inl hb⟩,Below.only HW.out _,(λe=>by cases e),λ_=>hm1⟩
 cases hq:aoz T o.ot o.on with
 |none=>
  have HS:Hid (izz F mb B U bl dr T o mv gt fu fn w W1 false T):=skip (.inl hq)
  have e1:aTz T (o.ot,o.on)=false:=by rw[hhq,hq];rfl
  rw[e1]
  clear h1 hm1 hB1 skip hdir hinU hhq hinQ
  simp only[Bool.false_eq_true,if_false]
  generalize (if aTz T (o.pt,o.pn)=true then Value.pointer (some ⟨bl (o.pt,o.pn),0,none⟩)else .pointer none)=v2
  go_wp2_with fail
  go_ret
  exact⟨false,T,rfl,HS.out⟩
 |some k=>
  obtain⟨b,hb,eb1,eb2⟩:=aCz hq
  have e1:aTz T (o.ot,o.on)=true:=by rw[hhq,hq];rfl
  have hqU:=hinQ e1
  rw[e1]
  simp only[if_true]
  cases hh:aTz T (o.pt,o.pn)with
  |false=>
   have HS:Hid (izz F mb B U bl dr T o mv gt fu fn w W1 false T):=skip (.inr (.inl (by rw[hdir,hh];rfl)))
   clear h1 hm1 hB1 skip hdir hinU hhq hinQ
   simp only[Bool.false_eq_true,if_false]
   go_wp2_with fail
   go_ret
   exact⟨false,T,rfl,HS.out⟩
  |true=>
   have hpU:=hinU hh
   have c4:W1.cell? ⟨bl (o.pt,o.pn),4,none⟩=some (.bool (dr (o.pt,o.pn))):=h1.objs.cell hpU 4
   simp only[if_true]
   cases hd:dr (o.pt,o.pn)with
   |false=>
    have HS:Hid (izz F mb B U bl dr T o mv gt fu fn w W1 false T):=skip (.inr (.inl (by rw[hdir,hh,hd];rfl)))
    rw[hd]at c4
    clear h1 hm1 hB1 skip hdir hinU hhq hinQ
    go_wp2_with fail
    go_ret
    exact⟨false,T,rfl,HS.out⟩
   |true=>
    rw[hd]at c4
    have hdir':aAz T o.pt o.pn=true:=hdir.trans (by rw[hh,hd];rfl)
    by_cases hpq:(o.pt,o.pn)=(o.ot,o.on)
    ·have HS:Hid (izz F mb B U bl dr T o mv gt fu fn w W1 false T):=skip (.inr (.inr (.inl ⟨congrArg Prod.fst hpq,congrArg Prod.snd hpq⟩)))
     rw[hpq]at c4⊢
     have hE:=haz (bl (o.ot,o.on)) W1
     clear h1 hm1 hB1 skip hdir hinU hhq hinQ
     go_wp2_with fail
     go_ret
     exact⟨false,T,rfl,HS.out⟩
    ·have hblne:bl (o.pt,o.pn)≠bl (o.ot,o.on):=λe=>hpq (h1.objs.inj _ hpU _ hqU e)
     have hE:=fIz hblne (h1.objs.obj _ hpU) (h1.objs.obj _ hqU)
     have hbel:=eSz h1.objs h1.par h1.wf.rank hpU hqU
     by_cases hB:Bel T (o.pt,o.pn) (o.ot,o.on)
     ·have HS:Hid (izz F mb B U bl dr T o mv gt fu fn w W1 false T):=skip (.inr (.inr (.inr hB)))
      have hbel':Calls Tryz.prog 82 #[.pointer (some ⟨bl (o.pt,o.pn),0,none⟩),.pointer (some ⟨bl (o.ot,o.on),0,none⟩)] W1 λe w'=>e=.returned (.bool true)∧w'=W1:=by
       refine hbel.mono ?_
       rintro e w' ⟨r,rfl,hr,hw⟩
       rw[hr.2 hB]
       exact⟨rfl,hw⟩
      clear h1 hm1 hB1 skip hdir hinU hhq hinQ hbel
      go_wp2_with (go_at_call 82;refine adz hbel' ?_)
      go_ret
      exact⟨false,T,rfl,HS.out⟩
     ·have hbel':Calls Tryz.prog 82 #[.pointer (some ⟨bl (o.pt,o.pn),0,none⟩),.pointer (some ⟨bl (o.ot,o.on),0,none⟩)] W1 λe w'=>e=.returned (.bool false)∧w'=W1:=by
       refine hbel.mono ?_
       rintro e w' ⟨r,rfl,hr,hw⟩
       cases r
       ·exact⟨rfl,hw⟩
       ·exact absurd (hr.1 rfl) hB
      have hplq:amz T (o.ot,o.on)=some ((b.pt,b.pn),b.nm):=bKz hq hb
      have hpb:=h1.par _ hqU _ _ hplq
      have hpbne:=h1.par_ne hplq
      have q0:W1.cell? ⟨bl (o.ot,o.on),0,none⟩=some (.pointer (some ⟨bl (b.pt,b.pn),0,none⟩)):=by rw[h1.objs.cell hqU 0,hplq];rfl
      have q1:W1.cell? ⟨bl (o.ot,o.on),1,none⟩=some (.string b.nm):=by rw[h1.objs.cell hqU 1,hplq];rfl
      have m6:W1.cell? ⟨mv,6,none⟩=some fu:=cellOf hm1 6
      have m7:W1.cell? ⟨mv,7,none⟩=some (.string fn):=cellOf hm1 7
      have f6:W1.frozen? ⟨mv,6,none⟩=false:=aez hm1 6
      have f7:W1.frozen? ⟨mv,7,none⟩=false:=aez hm1 7
      obtain⟨W4,hW4⟩:∃W4,W4=(W1.setCell ⟨mv,6,none⟩ (.pointer (some ⟨bl (b.pt,b.pn),0,none⟩))).setCell ⟨mv,7,none⟩ (.string b.nm):=⟨_,rfl⟩
      have ho4:Only (· =mv) W1 W4:=by rw[hW4];exact bVz _ _ _ _ _ _
      have hm4:MvAt W4 mv gt o (.pointer (some ⟨bl (b.pt,b.pn),0,none⟩)) b.nm:=by rw[hW4];exact hm1.set _ _
      have h4:TreeM F W4 mb B U bl kv dr T:=h1.kept ho4 λb hb e=>hmF (by rw[← e];exact hb)
      have hF4:∀b,exF F mb b→b<W4.heap.size:=λb hb=>by have:=HH.out.2.1 b hb.1;have:=HW.out.size;have:=ho4.size;omega
      have hput:=kKz (p2:=(o.pt,o.pn)) (nm2:=o.nm) h4.objs hF4 hqU hplq hpb hpbne hpU hpq
      have n5:W4.cell? ⟨mv,5,none⟩=some (.string o.nm):=cellOf hm4 5
      have hw5:((W1.setCell ⟨mv,6,none⟩ (.pointer (some ⟨bl (b.pt,b.pn),0,none⟩))).setCell ⟨mv,7,none⟩ (.string b.nm)).cell? ⟨mv,5,none⟩=some (.string o.nm):=by rw[← hW4];exact n5
      have hstep:∀s,StepT T s o (T.set k (aQz o b)) s:=λs=>.move hkd hq hb hdir' (λe=>hpq (Prod.ext e.1 e.2)) hB
      have HG:Hid (TreeM F W4 mb B U bl kv dr T∧Only (· =mv) W1 W4∧MvAt W4 mv gt o (.pointer (some ⟨bl (b.pt,b.pn),0,none⟩)) b.nm∧(∀s,StepT T s o (T.set k (aQz o b)) s)∧idp b=(o.ot,o.on)):=⟨h4,ho4,hm4,hstep,Prod.ext eb1 eb2⟩
      have HWq:=a0z hW4
      have hput':=hput
      rw[hW4]at hput'
      clear h1 hm1 hB1 skip hdir hinU hhq hinQ hbel ho4 hm4 h4 hF4 hput hstep n5 hW4
      go_wp2_with (first|(go_at_call 82;refine adz hbel' ?_)|(go_at_call 150;refine hput'.mono ?_;rintro e W5 ⟨rfl,kv',hO5,hOn5⟩;have HO:Hid (ObjsM (ajz (exF F mb) W4 W5) W5 U bl kv' dr (b7z (amz T) (o.ot,o.on) (some ((o.pt,o.pn),o.nm))) (b7z (amz T) (o.ot,o.on) (some ((o.pt,o.pn),o.nm)))∧Only (exF F mb) W4 W5):=(by rw[HWq.out];exact⟨hO5,hOn5⟩);clear hO5 hOn5 hput'))
      go_ret
      obtain⟨h4,ho4,hm4,hstep,hid⟩:=HG.out
      obtain⟨hO5,hOn5⟩:=HO.out
      have hmb:=h4.map.lt
      have s4:=ho4.size
      have s5:=hOn5.size
      have hmv:=block_lt hm4
      have hw1:=HW.out.size
      refine⟨true,T.set k (aQz o b),rfl,hstep,⟨kv', ?_⟩, ?_,λ_=>⟨k,b,hq,hb,rfl,(hOn5.block _ hmv (λe=>hmF e.1)).trans hm4⟩,λe=>by cases e⟩
      ·refine⟨?_, ?_,.inl h4.fmb,h4.bb,h4.rt,λx hx=> ?_,⟨h4.drs.1,h4.drs.2.1,λx hx=> ?_⟩,h4.wf.step (hstep 0) h0⟩
       ·have e:amz (T.set k (aQz o b))=b7z (amz T) (o.ot,o.on) (some ((o.pt,o.pn),o.nm)):=by
         have:=fqz (b':=aQz o b) h4.wf.apart hb rfl
         rw[hid]at this
         exact this
        rw[e]
        refine hO5.mono λx hx=> ?_
        rcases hx with hx|hx
        ·exact⟨.inl hx.1,hx.2⟩
        ·exact⟨.inr ⟨by omega,hx.2⟩,by omega⟩
       ·have e:b8z B bl (T.set k (aQz o b))=b8z B bl T:=by
         unfold b8z
         rw[buz (b':=aQz o b) hb rfl]
        rw[e]
        exact h4.map.kept hOn5 (λe=>e.2 rfl)
       ·have hx':idp x∈(T.set k (aQz o b)).map idp:=List.mem_map.2 ⟨x,hx,rfl⟩
        rw[buz (b':=aQz o b) hb rfl]at hx'
        obtain⟨y,hy,e⟩:=List.mem_map.1 hx'
        rw[← e]
        exact h4.ids y hy
       ·rcases List.mem_or_eq_of_mem_set hx with hx|hx
        ·exact h4.drs.2.2 x hx
        ·rw[hx]
         exact h4.drs.2.2 b (List.mem_of_getElem? hb)
      ·have a1:Only (λb=>F b∨b=mv) w W1:=Below.only HW.out _
       have a2:Only (λb=>F b∨b=mv) W1 W4:=atz ho4 λb hb=>.inr hb
       have a3:Only (λb=>F b∨b=mv) W4 W5:=atz hOn5 λb hb=>.inl hb.1
       exact(a1.next a2).next a3
theorem ldz {k:Nat} {b:OB} (gt mv:Nat) (o:OG) (h:TreeM F w mb B U bl kv dr (T.set k (aQz o b))) (hF:∀b,F b→b<w.heap.size) (hg:w.cell? ⟨gt,0,none⟩=some (.map (some mb))) (hm:MvAt w mv gt o (.pointer (some ⟨bl (b.pt,b.pn),0,none⟩)) b.nm) (hmF:¬F mv) (hq:aoz T o.ot o.on=some k) (hb:T[k]? =some b) (hwf:WfT T):
  Calls Tryz.prog 110 #[.pointer (some ⟨mv,0,none⟩)] w λe w'=>e=.returned (.tuple #[])∧(∃kv',TreeM (ajz F w w') w' mb B U bl kv' dr T)∧Only (λb=>F b∨b=mv) w w'∧MvAt w' mv gt o (.pointer none) ⟨#[]⟩:=by
 have hkl:=(List.getElem?_eq_some_iff.1 hb).1
 obtain⟨b',hb',eb1,eb2⟩:=aCz hq
 rw[hb]at hb'
 cases hb'
 have hid:idp b=(o.ot,o.on):=Prod.ext eb1 eb2
 have hset:(T.set k (aQz o b))[k]? =some (aQz o b):=by simp[hkl]
 have hfs:∀t n,aoz (T.set k (aQz o b)) t n=aoz T t n:=λt n=>clz (b':=aQz o b) hb rfl t n
 have hq':aoz (T.set k (aQz o b)) o.ot o.on=some k:=by rw[hfs];exact hq
 have hpf:amz (T.set k (aQz o b)) (o.ot,o.on)=some ((o.pt,o.pn),o.nm):=bKz hq' hset
 have hinv:(T.set k (aQz o b)).set k b=T:=by
  rw[List.set_set]
  have e:=(List.getElem?_eq_some_iff.1 hb).2
  rw[← e]
  exact List.set_getElem_self hkl
 have hback:b7z (amz (T.set k (aQz o b))) (o.ot,o.on) (some ((b.pt,b.pn),b.nm))=amz T:=by
  have:=fqz (b':=b) h.wf.apart hset rfl
  rw[hinv]at this
  have e:idp (aQz o b)=(o.ot,o.on):=hid
  rw[e]at this
  exact this.symm
 have hqU:(o.ot,o.on)∈U:=by
  have:=h.ids (aQz o b) (List.mem_of_getElem? hset)
  have e:idp (aQz o b)=(o.ot,o.on):=hid
  rwa [e]at this
 have hhas:∀q,aTz (T.set k (aQz o b)) q=aTz T q:=λq=>by unfold aTz;rw[hfs]
 have hpb:(b.pt,b.pn)∈U:=by
  refine h.inU ?_
  rw[hhas]
  have hd:=hwf.home b (List.mem_of_getElem? hb)
  unfold aAz at hd
  unfold aTz
  simp only[Bool.or_eq_true]at hd⊢
  rcases hd with(hd|hd)|hd
  ·exact .inl (.inl hd)
  ·exact .inl (.inr hd)
  ·refine .inr ?_
   cases hf:aoz T b.pt b.pn with
   |none=>rw[hf]at hd;cases hd
   |some j=>rfl
 have hpbne:(b.pt,b.pn)≠(o.ot,o.on):=λe=>by
  refine hwf.rank.self (o.ot,o.on) (.one ?_)
  rw[lcz (a:=(o.ot,o.on)) hq hb,e]
 have hput:=kKz (p2:=(b.pt,b.pn)) (nm2:=b.nm) (w:=w.drew) (h.objs.below ⟨rfl,rfl,rfl,Nat.le_refl _,λ_ _=>rfl⟩) (λb hb=>hF b hb.1) hqU hpf (h.par _ hqU _ _ hpf) (h.par_ne hpf) hpb hpbne
 rw[hback]at hput
 have hlk:(Instr.lookup 71 (.map (some mb)) (idv o.ot o.on) false).run Tryz.prog w.drew=.ok (.pointer (some ⟨bl (o.ot,o.on),0,none⟩)) w.drew:=by
  have:=(h.below (w':=w.drew) ⟨rfl,rfl,rfl,Nat.le_refl _,λ_ _=>rfl⟩).look o.ot o.on
  rw[if_pos]at this
  ·exact this
  ·rw[hhas];unfold aTz;rw[hq];simp
 have m0:w.cell? ⟨mv,0,none⟩=some (.pointer (some ⟨gt,0,none⟩)):=cellOf hm 0
 have m1:w.cell? ⟨mv,1,none⟩=some (.int .i64 o.ot):=cellOf hm 1
 have m2:w.cell? ⟨mv,2,none⟩=some (.int .i64 o.on):=cellOf hm 2
 have m6:w.cell? ⟨mv,6,none⟩=some (.pointer (some ⟨bl (b.pt,b.pn),0,none⟩)):=cellOf hm 6
 have m7:w.cell? ⟨mv,7,none⟩=some (.string b.nm):=cellOf hm 7
 have HH:Hid (TreeM F w mb B U bl kv dr (T.set k (aQz o b))∧(∀b,F b→b<w.heap.size)∧MvAt w mv gt o (.pointer (some ⟨bl (b.pt,b.pn),0,none⟩)) b.nm∧(T.set k (aQz o b)).map idp=T.map idp∧WfT T∧(∀x∈T,∃y∈T.set k (aQz o b),idp y=idp x∧y.dir=x.dir)):=by
  refine⟨h,hF,hm,buz (b':=aQz o b) hb rfl,hwf,λx hx=> ?_⟩
  obtain⟨j,hj,e⟩:=List.getElem_of_mem hx
  by_cases ejk:j=k
  ·subst ejk
   refine⟨aQz o b,List.mem_of_getElem? hset, ?_⟩
   rw[List.getElem?_eq_getElem hj,e]at hb
   cases hb
   exact⟨rfl,rfl⟩
  ·refine⟨x,List.mem_of_getElem? (i:=j) ?_,rfl,rfl⟩
   rw[List.getElem?_set_ne (Ne.symm ejk),List.getElem?_eq_getElem hj,e]
 clear h hF hm hset hfs hq' hpf hinv hback hhas hpb hpbne hq hb hwf
 go_enter Tryz.func110,Tryz.ntmps110
 go_wp2_with fail
 refine mSz (by kernel_rfl) mv gt mb (bl (o.ot,o.on)) o.ot o.on (.pointer (some ⟨bl (b.pt,b.pn),0,none⟩)) b.nm (λW=>∃kv',ObjsM (ajz (exF F mb) w.drew W) W U bl kv' dr (amz T) (amz T)∧Only (exF F mb) w.drew W) _ rfl rfl m0 m1 m2 m6 m7 hg hlk hput ?_
 rintro _ W1 ⟨kv',hO1,hOn1⟩
 have hOn1':Only (exF F mb) w W1:=dKz hOn1
 have hm1:MvAt W1 mv gt o (.pointer (some ⟨bl (b.pt,b.pn),0,none⟩)) b.nm:=(hOn1'.block _ (block_lt HH.out.2.2.1) (λe=>hmF e.1)).trans HH.out.2.2.1
 have n6:W1.cell? ⟨mv,6,none⟩=some (.pointer (some ⟨bl (b.pt,b.pn),0,none⟩)):=cellOf hm1 6
 have n7:W1.cell? ⟨mv,7,none⟩=some (.string b.nm):=cellOf hm1 7
 have f6:W1.frozen? ⟨mv,6,none⟩=false:=aez hm1 6
 have f7:W1.frozen? ⟨mv,7,none⟩=false:=aez hm1 7
 have HR:Hid ((∃kv',TreeM (ajz F w ((W1.setCell ⟨mv,6,none⟩ (.pointer none)).setCell ⟨mv,7,none⟩ (.string ⟨#[]⟩))) ((W1.setCell ⟨mv,6,none⟩ (.pointer none)).setCell ⟨mv,7,none⟩ (.string ⟨#[]⟩)) mb B U bl kv' dr T)∧Only (λb=>F b∨b=mv) w ((W1.setCell ⟨mv,6,none⟩ (.pointer none)).setCell ⟨mv,7,none⟩ (.string ⟨#[]⟩))∧MvAt ((W1.setCell ⟨mv,6,none⟩ (.pointer none)).setCell ⟨mv,7,none⟩ (.string ⟨#[]⟩)) mv gt o (.pointer none) ⟨#[]⟩):=by
  obtain⟨h,hF,hm,hmap,hwf,hdd⟩:=HH.out
  have ho2:Only (· =mv) W1 ((W1.setCell ⟨mv,6,none⟩ (.pointer none)).setCell ⟨mv,7,none⟩ (.string ⟨#[]⟩)):=bVz _ _ _ _ _ _
  have hmb:=h.map.lt
  have hs1:=hOn1'.size
  have hmv:=block_lt hm
  have he:b8z B bl T=b8z B bl (T.set k (aQz o b)):=by unfold b8z;rw[hmap]
  refine⟨⟨kv',⟨?_, ?_,.inl h.fmb,h.bb,h.rt,λx hx=> ?_,⟨h.drs.1,h.drs.2.1,λx hx=> ?_⟩,hwf⟩⟩, ?_,hm1.set _ _⟩
  ·refine(hO1.kept ho2 (λx hx e=> ?_)).mono λx hx=> ?_
   ·rcases hx with hx|hx
    ·exact hmF (by rw[← e];exact hx.1)
    ·have:w.heap.size≤x:=hx.1
     omega
   ·rcases hx with hx|hx
    ·exact⟨.inl hx.1,hx.2⟩
    ·have:w.heap.size≤x:=hx.1
     exact⟨.inr ⟨hx.1,by simpa using hx.2⟩,by omega⟩
  ·rw[he]
   exact(h.map.kept hOn1' (λe=>e.2 rfl)).kept ho2 (λe=>hmF (by rw[← e];exact h.fmb))
  ·obtain⟨y,hy,e1,_⟩:=hdd x hx
   rw[← e1];exact h.ids y hy
  ·obtain⟨y,hy,e1,e2⟩:=hdd x hx
   rw[← e1,← e2];exact h.drs.2.2 y hy
  ·exact(atz hOn1' λb hb=>.inl hb.1).next (atz ho2 λb hb=>.inr hb)
 clear hO1 hOn1 hOn1' hm1 hput hlk m0 m1 m2 m6 m7 hg
 simp only[abz,sA,sB,sC]
 go_wp2_with fail
 go_end0
 exact⟨rfl,HR.out⟩
end Go.Proofs.YthhakekbffembaaGreatDoor.Ck.Y

namespace Go.Proofs.YthhakekbffembaaGreatDoor.Ck.Y
open Go.RowKit Go.Maps Go.Lib
def mkK (o:OG):Bool:=decide (o.kd=1)||decide (o.kd=2)
def doF (o:OG) (x:Nat):Value:=if mkK o=true then .func (.func 107) #[.pointer (some ⟨x,0,none⟩)] #[]else if o.kd=3 then .func (.func 109) #[.pointer (some ⟨x,0,none⟩)] #[]else .func (.func 111) #[.agg #[]] #[]
def unF (o:OG) (x:Nat):Value:=if mkK o=true then .func (.func 108) #[.pointer (some ⟨x,0,none⟩)] #[]else if o.kd=3 then .func (.func 110) #[.pointer (some ⟨x,0,none⟩)] #[]else .func (.func 112) #[.agg #[]] #[]
structure StAt (w:World) (gt:Nat) (bl:PI→Nat) (o:OG) (sb x:Nat) (did:Bool) (fu:Value) (fn:ByteArray):Prop where
 blk:w.heap[sb]? =some (.cells #[.int .i64 o.t,.int .i64 o.n,doF o x,unF o x,.bool did] 152 (0,0))
 mkat:mkK o=true→ewz w x gt bl o
 mvat:o.kd=3→MvAt w x gt o fu fn
def olz (o:OG):Array Value:= #[.pointer none,.string ⟨#[]⟩,.int .i64 o.ot,.int .i64 o.on,.bool (decide (o.kd=1)),.slice none 0 0]
structure Made (w w':World) (gt:Nat) (o:OG) (sb x ob:Nat):Prop where
 bel:Below w.heap.size w w'
 hsb:w.heap.size≤sb
 hx:w.heap.size≤x
 hob:w.heap.size≤ob
 xl:x<w'.heap.size
 obj:mkK o=true→w'.heap[ob]? =some (.cells (olz o) 131 (0,0))
 st:∀bl:PI→Nat,(mkK o=true→bl (o.ot,o.on)=ob)→StAt w' gt bl o sb x false (.pointer none) ⟨#[]⟩
theorem kCz (gt:Nat) (t n sq ot on pt pn:Int) (nm:ByteArray) (dp sp:Option Addr) (dl dc sl sc:Nat) (w:World) (hn:nm.size≤1000000):
  Calls Tryz.prog 72 #[.pointer (some ⟨gt,0,none⟩),.agg #[.int .i64 t,.int .i64 n,.int .i64 sq,.int .i64 1,.int .i64 ot,.int .i64 on,.int .i64 pt,.int .i64 pn,.string nm,.slice dp dl dc,.slice sp sl sc]] w λe w'=>∃sb x ob,e=.returned (.pointer (some ⟨sb,0,none⟩))∧Made w w' gt ⟨t,n,sq,1,ot,on,pt,pn,nm,dp,dl,dc,sp,sl,sc⟩ sb x ob:=by
 have hcl:=λW=>bsz nm W hn
 obtain⟨w0,hw0⟩:∃w0,w0=w.alloc (.cells #[.int .i64 t,.int .i64 n,.int .i64 sq,.int .i64 1,.int .i64 ot,.int .i64 on,.int .i64 pt,.int .i64 pn,.string nm,.slice dp dl dc,.slice sp sl sc] 33):=⟨_,rfl⟩
 have HB0:Hid (Below w.heap.size w w0):=by rw[hw0];exact(Below.refl w.heap.size w).alloc (Nat.le_refl _) _
 have HX:Hid (w0.heap[w.heap.size]? =some (.cells #[.int .i64 t,.int .i64 n,.int .i64 sq,.int .i64 1,.int .i64 ot,.int .i64 on,.int .i64 pt,.int .i64 pn,.string nm,.slice dp dl dc,.slice sp sl sc] 33 (0,0))):=by rw[hw0];exact heap_alloc_new w _
 have HW:=a0z hw0
 clear hw0 hn
 go_enter Tryz.func72,Tryz.ntmps72
 go_wp2_with (go_at_call 106;rw[← HW.out];refine(hcl w0).mono ?_;rintro e W1 ⟨rfl,hb1⟩;have HB1:Hid (Below w.heap.size w W1):=HB0.out.trans (hb1.mono HB0.out.size);have hx1:W1.heap[w.heap.size]? =_:=(hb1.block _ (block_lt HX.out)).trans HX.out;have x0:W1.cell? ⟨w.heap.size,0,none⟩=some (.int .i64 t):=cellOf hx1 0;have x1:W1.cell? ⟨w.heap.size,1,none⟩=some (.int .i64 n):=cellOf hx1 1;have x3:W1.cell? ⟨w.heap.size,3,none⟩=some (.int .i64 1):=cellOf hx1 3;have x4:W1.cell? ⟨w.heap.size,4,none⟩=some (.int .i64 ot):=cellOf hx1 4;have x5:W1.cell? ⟨w.heap.size,5,none⟩=some (.int .i64 on):=cellOf hx1 5;have x6:W1.cell? ⟨w.heap.size,6,none⟩=some (.int .i64 pt):=cellOf hx1 6;have x7:W1.cell? ⟨w.heap.size,7,none⟩=some (.int .i64 pn):=cellOf hx1 7;have hlt:w.heap.size<W1.heap.size:=block_lt hx1;clear hx1 hb1 hcl)
 go_ret
 have s1:=HB1.out.size
 refine⟨W1.heap.size+2,W1.heap.size+1,W1.heap.size, ?_,⟨?_,by omega,by omega,by omega,by simp<;>omega,λ_=> ?_,λbl hbl=>⟨?_,λ_=> ?_,λh=> ?_⟩⟩⟩
 ·simp
 ·exact((HB1.out.alloc HB1.out.size _).alloc (by simp;omega) _).alloc (by simp;omega) _
 ·rw[heap_alloc_old _ _ (by simp;omega),heap_alloc_old _ _ (by simp)];exact heap_alloc_new W1 _
 ·have:=heap_alloc_new ((W1.alloc (.cells #[.pointer none,.string ⟨#[]⟩,.int .i64 ot,.int .i64 on,.bool true,.slice none 0 0] 131)).alloc (.cells #[.pointer (some ⟨gt,0,none⟩),.pointer (some ⟨W1.heap.size,0,none⟩),.int .i64 pt,.int .i64 pn,.string nm] 158)) (.cells #[.int .i64 t,.int .i64 n,.func (.func 107) #[.pointer (some ⟨W1.heap.size+1,0,none⟩)] #[],.func (.func 108) #[.pointer (some ⟨W1.heap.size+1,0,none⟩)] #[],.bool false] 152)
  simpa[doF,unF,mkK]using this
 ·have e:=hbl (by simp[mkK])
  have:=heap_alloc_new (W1.alloc (.cells #[.pointer none,.string ⟨#[]⟩,.int .i64 ot,.int .i64 on,.bool true,.slice none 0 0] 131)) (.cells #[.pointer (some ⟨gt,0,none⟩),.pointer (some ⟨W1.heap.size,0,none⟩),.int .i64 pt,.int .i64 pn,.string nm] 158)
  unfold ewz
  rw[heap_alloc_old _ _ (by simp),e]
  simpa using this
 ·exact absurd h (by simp)
theorem lPz (gt:Nat) (t n sq ot on pt pn:Int) (nm:ByteArray) (dp sp:Option Addr) (dl dc sl sc:Nat) (w:World) (hn:nm.size≤1000000):
  Calls Tryz.prog 72 #[.pointer (some ⟨gt,0,none⟩),.agg #[.int .i64 t,.int .i64 n,.int .i64 sq,.int .i64 2,.int .i64 ot,.int .i64 on,.int .i64 pt,.int .i64 pn,.string nm,.slice dp dl dc,.slice sp sl sc]] w λe w'=>∃sb x ob,e=.returned (.pointer (some ⟨sb,0,none⟩))∧Made w w' gt ⟨t,n,sq,2,ot,on,pt,pn,nm,dp,dl,dc,sp,sl,sc⟩ sb x ob:=by
 have hcl:=λW=>bsz nm W hn
 obtain⟨w0,hw0⟩:∃w0,w0=w.alloc (.cells #[.int .i64 t,.int .i64 n,.int .i64 sq,.int .i64 2,.int .i64 ot,.int .i64 on,.int .i64 pt,.int .i64 pn,.string nm,.slice dp dl dc,.slice sp sl sc] 33):=⟨_,rfl⟩
 have HB0:Hid (Below w.heap.size w w0):=by rw[hw0];exact(Below.refl w.heap.size w).alloc (Nat.le_refl _) _
 have HX:Hid (w0.heap[w.heap.size]? =some (.cells #[.int .i64 t,.int .i64 n,.int .i64 sq,.int .i64 2,.int .i64 ot,.int .i64 on,.int .i64 pt,.int .i64 pn,.string nm,.slice dp dl dc,.slice sp sl sc] 33 (0,0))):=by rw[hw0];exact heap_alloc_new w _
 have HW:=a0z hw0
 clear hw0 hn
 go_enter Tryz.func72,Tryz.ntmps72
 go_wp2_with (go_at_call 106;rw[← HW.out];refine(hcl w0).mono ?_;rintro e W1 ⟨rfl,hb1⟩;have HB1:Hid (Below w.heap.size w W1):=HB0.out.trans (hb1.mono HB0.out.size);have hx1:W1.heap[w.heap.size]? =_:=(hb1.block _ (block_lt HX.out)).trans HX.out;have x0:W1.cell? ⟨w.heap.size,0,none⟩=some (.int .i64 t):=cellOf hx1 0;have x1:W1.cell? ⟨w.heap.size,1,none⟩=some (.int .i64 n):=cellOf hx1 1;have x3:W1.cell? ⟨w.heap.size,3,none⟩=some (.int .i64 2):=cellOf hx1 3;have x4:W1.cell? ⟨w.heap.size,4,none⟩=some (.int .i64 ot):=cellOf hx1 4;have x5:W1.cell? ⟨w.heap.size,5,none⟩=some (.int .i64 on):=cellOf hx1 5;have x6:W1.cell? ⟨w.heap.size,6,none⟩=some (.int .i64 pt):=cellOf hx1 6;have x7:W1.cell? ⟨w.heap.size,7,none⟩=some (.int .i64 pn):=cellOf hx1 7;have hlt:w.heap.size<W1.heap.size:=block_lt hx1;clear hx1 hb1 hcl)
 go_ret
 have s1:=HB1.out.size
 refine⟨W1.heap.size+2,W1.heap.size+1,W1.heap.size, ?_,⟨?_,by omega,by omega,by omega,by simp<;>omega,λ_=> ?_,λbl hbl=>⟨?_,λ_=> ?_,λh=> ?_⟩⟩⟩
 ·simp
 ·exact((HB1.out.alloc HB1.out.size _).alloc (by simp;omega) _).alloc (by simp;omega) _
 ·rw[heap_alloc_old _ _ (by simp;omega),heap_alloc_old _ _ (by simp)];exact heap_alloc_new W1 _
 ·have:=heap_alloc_new ((W1.alloc (.cells #[.pointer none,.string ⟨#[]⟩,.int .i64 ot,.int .i64 on,.bool false,.slice none 0 0] 131)).alloc (.cells #[.pointer (some ⟨gt,0,none⟩),.pointer (some ⟨W1.heap.size,0,none⟩),.int .i64 pt,.int .i64 pn,.string nm] 158)) (.cells #[.int .i64 t,.int .i64 n,.func (.func 107) #[.pointer (some ⟨W1.heap.size+1,0,none⟩)] #[],.func (.func 108) #[.pointer (some ⟨W1.heap.size+1,0,none⟩)] #[],.bool false] 152)
  simpa[doF,unF,mkK]using this
 ·have e:=hbl (by simp[mkK])
  have:=heap_alloc_new (W1.alloc (.cells #[.pointer none,.string ⟨#[]⟩,.int .i64 ot,.int .i64 on,.bool false,.slice none 0 0] 131)) (.cells #[.pointer (some ⟨gt,0,none⟩),.pointer (some ⟨W1.heap.size,0,none⟩),.int .i64 pt,.int .i64 pn,.string nm] 158)
  unfold ewz
  rw[heap_alloc_old _ _ (by simp),e]
  simpa using this
 ·exact absurd h (by simp)
theorem lkz (gt:Nat) (t n sq ot on pt pn:Int) (nm:ByteArray) (dp sp:Option Addr) (dl dc sl sc:Nat) (w:World) (hn:nm.size≤1000000):
  Calls Tryz.prog 72 #[.pointer (some ⟨gt,0,none⟩),.agg #[.int .i64 t,.int .i64 n,.int .i64 sq,.int .i64 3,.int .i64 ot,.int .i64 on,.int .i64 pt,.int .i64 pn,.string nm,.slice dp dl dc,.slice sp sl sc]] w λe w'=>∃sb x ob,e=.returned (.pointer (some ⟨sb,0,none⟩))∧Made w w' gt ⟨t,n,sq,3,ot,on,pt,pn,nm,dp,dl,dc,sp,sl,sc⟩ sb x ob:=by
 have hcl:=λW=>bsz nm W hn
 obtain⟨w0,hw0⟩:∃w0,w0=w.alloc (.cells #[.int .i64 t,.int .i64 n,.int .i64 sq,.int .i64 3,.int .i64 ot,.int .i64 on,.int .i64 pt,.int .i64 pn,.string nm,.slice dp dl dc,.slice sp sl sc] 33):=⟨_,rfl⟩
 have HB0:Hid (Below w.heap.size w w0):=by rw[hw0];exact(Below.refl w.heap.size w).alloc (Nat.le_refl _) _
 have HX:Hid (w0.heap[w.heap.size]? =some (.cells #[.int .i64 t,.int .i64 n,.int .i64 sq,.int .i64 3,.int .i64 ot,.int .i64 on,.int .i64 pt,.int .i64 pn,.string nm,.slice dp dl dc,.slice sp sl sc] 33 (0,0))):=by rw[hw0];exact heap_alloc_new w _
 have HW:=a0z hw0
 clear hw0 hn
 go_enter Tryz.func72,Tryz.ntmps72
 go_wp2_with (go_at_call 106;rw[← HW.out];refine(hcl w0).mono ?_;rintro e W1 ⟨rfl,hb1⟩;have HB1:Hid (Below w.heap.size w W1):=HB0.out.trans (hb1.mono HB0.out.size);have hx1:W1.heap[w.heap.size]? =_:=(hb1.block _ (block_lt HX.out)).trans HX.out;have x0:W1.cell? ⟨w.heap.size,0,none⟩=some (.int .i64 t):=cellOf hx1 0;have x1:W1.cell? ⟨w.heap.size,1,none⟩=some (.int .i64 n):=cellOf hx1 1;have x3:W1.cell? ⟨w.heap.size,3,none⟩=some (.int .i64 3):=cellOf hx1 3;have x4:W1.cell? ⟨w.heap.size,4,none⟩=some (.int .i64 ot):=cellOf hx1 4;have x5:W1.cell? ⟨w.heap.size,5,none⟩=some (.int .i64 on):=cellOf hx1 5;have x6:W1.cell? ⟨w.heap.size,6,none⟩=some (.int .i64 pt):=cellOf hx1 6;have x7:W1.cell? ⟨w.heap.size,7,none⟩=some (.int .i64 pn):=cellOf hx1 7;have hlt:w.heap.size<W1.heap.size:=block_lt hx1;clear hx1 hb1 hcl)
 go_ret
 have s1:=HB1.out.size
 refine⟨W1.heap.size+1,W1.heap.size,W1.heap.size, ?_,⟨?_,by omega,by omega,by omega,by simp<;>omega,λh=> ?_,λbl hbl=>⟨?_,λh=> ?_,λ_=> ?_⟩⟩⟩
 ·simp
 ·exact(HB1.out.alloc HB1.out.size _).alloc (by simp;omega) _
 ·simp[mkK]at h
 ·have:=heap_alloc_new (W1.alloc (.cells #[.pointer (some ⟨gt,0,none⟩),.int .i64 ot,.int .i64 on,.int .i64 pt,.int .i64 pn,.string nm,.pointer none,.string ⟨#[]⟩] 161)) (.cells #[.int .i64 t,.int .i64 n,.func (.func 109) #[.pointer (some ⟨W1.heap.size,0,none⟩)] #[],.func (.func 110) #[.pointer (some ⟨W1.heap.size,0,none⟩)] #[],.bool false] 152)
  simpa[doF,unF,mkK]using this
 ·simp[mkK]at h
 ·unfold MvAt
  rw[heap_alloc_old _ _ (by simp)];exact heap_alloc_new W1 _
theorem lxz (gt:Nat) (t n sq ot on pt pn:Int) (nm:ByteArray) (dp sp:Option Addr) (dl dc sl sc:Nat) (kd:Int) (k1:¬kd=1) (k2:¬kd=2) (k3:¬kd=3) (w:World) (hn:nm.size≤1000000):
  Calls Tryz.prog 72 #[.pointer (some ⟨gt,0,none⟩),.agg #[.int .i64 t,.int .i64 n,.int .i64 sq,.int .i64 kd,.int .i64 ot,.int .i64 on,.int .i64 pt,.int .i64 pn,.string nm,.slice dp dl dc,.slice sp sl sc]] w λe w'=>∃sb x ob,e=.returned (.pointer (some ⟨sb,0,none⟩))∧Made w w' gt ⟨t,n,sq,kd,ot,on,pt,pn,nm,dp,dl,dc,sp,sl,sc⟩ sb x ob:=by
 have hcl:=λW=>bsz nm W hn
 obtain⟨w0,hw0⟩:∃w0,w0=w.alloc (.cells #[.int .i64 t,.int .i64 n,.int .i64 sq,.int .i64 kd,.int .i64 ot,.int .i64 on,.int .i64 pt,.int .i64 pn,.string nm,.slice dp dl dc,.slice sp sl sc] 33):=⟨_,rfl⟩
 have HB0:Hid (Below w.heap.size w w0):=by rw[hw0];exact(Below.refl w.heap.size w).alloc (Nat.le_refl _) _
 have HX:Hid (w0.heap[w.heap.size]? =some (.cells #[.int .i64 t,.int .i64 n,.int .i64 sq,.int .i64 kd,.int .i64 ot,.int .i64 on,.int .i64 pt,.int .i64 pn,.string nm,.slice dp dl dc,.slice sp sl sc] 33 (0,0))):=by rw[hw0];exact heap_alloc_new w _
 have HW:=a0z hw0
 clear hw0 hn
 go_enter Tryz.func72,Tryz.ntmps72
 go_wp2_with (go_at_call 106;rw[← HW.out];refine(hcl w0).mono ?_;rintro e W1 ⟨rfl,hb1⟩;have HB1:Hid (Below w.heap.size w W1):=HB0.out.trans (hb1.mono HB0.out.size);have hx1:W1.heap[w.heap.size]? =_:=(hb1.block _ (block_lt HX.out)).trans HX.out;have x0:W1.cell? ⟨w.heap.size,0,none⟩=some (.int .i64 t):=cellOf hx1 0;have x1:W1.cell? ⟨w.heap.size,1,none⟩=some (.int .i64 n):=cellOf hx1 1;have x3:W1.cell? ⟨w.heap.size,3,none⟩=some (.int .i64 kd):=cellOf hx1 3;have x4:W1.cell? ⟨w.heap.size,4,none⟩=some (.int .i64 ot):=cellOf hx1 4;have x5:W1.cell? ⟨w.heap.size,5,none⟩=some (.int .i64 on):=cellOf hx1 5;have x6:W1.cell? ⟨w.heap.size,6,none⟩=some (.int .i64 pt):=cellOf hx1 6;have x7:W1.cell? ⟨w.heap.size,7,none⟩=some (.int .i64 pn):=cellOf hx1 7;have hlt:w.heap.size<W1.heap.size:=block_lt hx1;clear hx1 hb1 hcl)
 go_ret
 have s1:=HB1.out.size
 have km:mkK ⟨t,n,sq,kd,ot,on,pt,pn,nm,dp,dl,dc,sp,sl,sc⟩=false:=by simp[mkK,k1,k2]
 refine⟨W1.heap.size+1,W1.heap.size,W1.heap.size, ?_,⟨?_,by omega,by omega,by omega,by simp<;>omega,λh=> ?_,λbl hbl=>⟨?_,λh=> ?_,λh=>absurd h k3⟩⟩⟩
 ·simp
 ·exact(HB1.out.alloc HB1.out.size _).alloc (by simp;omega) _
 ·rw[km]at h;cases h
 ·have:=heap_alloc_new (W1.alloc (.cells #[] 163)) (.cells #[.int .i64 t,.int .i64 n,.func (.func 111) #[.agg #[]] #[],.func (.func 112) #[.agg #[]] #[],.bool false] 152)
  unfold doF unF
  rw[km]
  simpa[k3]using this
 ·rw[km]at h;cases h
theorem ikz (gt:Nat) (o:OG) (w:World) (hn:o.nm.size≤1000000):
  Calls Tryz.prog 72 #[.pointer (some ⟨gt,0,none⟩),b2z o] w λe w'=>∃sb x ob,e=.returned (.pointer (some ⟨sb,0,none⟩))∧Made w w' gt o sb x ob:=by
 obtain⟨t,n,sq,kd,ot,on,pt,pn,nm,dp,dl,dc,sp,sl,sc⟩:=o
 by_cases k1:kd=1
 ·subst k1;exact kCz gt t n sq ot on pt pn nm dp sp dl dc sl sc w hn
 ·by_cases k2:kd=2
  ·subst k2;exact lPz gt t n sq ot on pt pn nm dp sp dl dc sl sc w hn
  ·by_cases k3:kd=3
   ·subst k3;exact lkz gt t n sq ot on pt pn nm dp sp dl dc sl sc w hn
   ·exact lxz gt t n sq ot on pt pn nm dp sp dl dc sl sc kd k1 k2 k3 w hn
def dcz (bl:PI→Nat) (U:List PI) (o:OG) (T T':List OB) (r:Bool) (fu:Value) (fn:ByteArray):Prop:=
 (∀s,StepT T s o T' (if r=true then s else s+1))∧(o.kd=3→r=true→∃k b,aoz T o.ot o.on=some k∧T[k]? =some b∧T'=T.set k (aQz o b)∧fu=.pointer (some ⟨bl (b.pt,b.pn),0,none⟩)∧fn=b.nm∧(b.pt,b.pn)∈U)
structure n0z (T:List OB) (U:List PI) (dr:PI→Bool) (o:OG):Prop where
 h0:¬o.ot=0
 mak:mkK o=true→dr (o.ot,o.on)=decide (o.kd=1)∧(o.ot,o.on)∈U∧aoz T o.ot o.on=none∧awz o.pt o.pn=false
theorem mkK_iff {o:OG}:mkK o=true↔o.kd=1∨o.kd=2:=by simp[mkK]
theorem m6z (w:World):Calls Tryz.prog 111 #[.agg #[]] w λe w'=>e=.returned (.bool true)∧Below w.heap.size w w':=by
 go_enter Tryz.func111,Tryz.ntmps111
 go_wp2
 go_ret
 exact⟨rfl,(Below.refl w.heap.size w).alloc (Nat.le_refl _) _⟩
theorem lJz (w:World):Calls Tryz.prog 112 #[.agg #[]] w λe w'=>e=.returned (.tuple #[])∧Below w.heap.size w w':=by
 go_enter Tryz.func112,Tryz.ntmps112
 go_wp2
 go_end0
 exact⟨rfl,(Below.refl w.heap.size w).alloc (Nat.le_refl _) _⟩
structure Ran (F:Nat→Prop) (mb:Nat) (B U:List PI) (bl:PI→Nat) (dr:PI→Bool) (T:List OB) (o:OG) (gt sb x:Nat) (w w':World) (r:Bool):Prop where
 out:∃T' fu fn,dcz bl U o T T' r fu fn∧(∃kv',TreeM (ajz F w w') w' mb B U bl kv' dr T')∧StAt w' gt bl o sb x r fu fn
 only:Only (λb=>F b∨b=sb∨(b=x∧o.kd=3)) w w'
section
variable {F:Nat→Prop} {w w1:World} {mb:Nat} {B U:List PI} {bl:PI→Nat} {kv:PI→Value} {dr:PI→Bool} {T T':List OB} {gt sb x:Nat} {o:OG} {did:Bool} {fu fu':Value} {fn fn':ByteArray}
theorem Ran.flag (r:Bool) (hsF:¬F sb) (hsb:sb<w.heap.size) (hu:dcz bl U o T T' r fu' fn') (ht:∃kv',TreeM (ajz F w w1) w1 mb B U bl kv' dr T') (hs:StAt w1 gt bl o sb x did fu' fn') (ho:Only (λb=>F b∨b=x∧o.kd=3) w w1):Ran F mb B U bl dr T o gt sb x w (w1.setCell ⟨sb,4,none⟩ (.bool r)) r:=by
 have ho2:Only (· =sb) w1 (w1.setCell ⟨sb,4,none⟩ (.bool r)):=Only.setCell (S:=(· =sb)) w1 ⟨sb,4,none⟩ _ rfl
 obtain⟨kv',ht⟩:=ht
 refine⟨⟨T',fu',fn',hu,⟨kv', ?_⟩,⟨a7z (k:=4) hs.blk (.bool r),λh=> ?_,λh=> ?_⟩⟩,(atz ho λb hb=>hb.elim .inl λh=>.inr (.inr h)).next (atz ho2 λb hb=>.inr (.inl hb))⟩
 ·refine(ht.kept ho2 λb hb e=> ?_).mono λb hb=> ?_
  ·rw[e]at hb
   rcases hb with hb|hb
   ·exact hsF hb
   ·omega
  ·rcases hb with hb|hb
   ·exact .inl hb
   ·exact .inr ⟨hb.1,by simpa using hb.2⟩
 ·have:=hs.mkat h
  exact(ho2.block _ (block_lt this) (aiz this hs.blk (by decide))).trans this
 ·have:=hs.mvat h
  exact(ho2.block _ (block_lt this) (aiz this hs.blk (by decide))).trans this
theorem nPz (h:TreeM F w mb B U bl kv dr T) (hF:∀b,F b→b<w.heap.size) (hg:w.cell? ⟨gt,0,none⟩=some (.map (some mb))) (hs:StAt w gt bl o sb x did fu fn) (hsF:¬F sb) (hxF:¬F x) (ok:n0z T U dr o) (km:mkK o=true):Calls Tryz.prog 159 #[.pointer (some ⟨sb,0,none⟩)] w λe w'=>∃r,e=.returned (.bool r)∧Ran F mb B U bl dr T o gt sb x w w' r:=by
 have hsb:=block_lt hs.blk
 have hd:doF o x=.func (.func 107) #[.pointer (some ⟨x,0,none⟩)] #[]:=by unfold doF;rw[if_pos km]
 have hkk:=mkK_iff.1 km
 have hcall:Calls Tryz.prog 107 #[.pointer (some ⟨x,0,none⟩)] w λe w1=>∃r,e=.returned (.bool r)∧w1.cell? ⟨sb,4,none⟩=some (.bool did)∧w1.frozen? ⟨sb,4,none⟩=false∧Hid (Ran F mb B U bl dr T o gt sb x w (w1.setCell ⟨sb,4,none⟩ (.bool r)) r):=by
  refine(kGz h hF gt x o hg (hs.mkat km) hxF hkk (ok.mak km).1 (ok.mak km).2.1 (ok.mak km).2.2.1 ok.h0 (ok.mak km).2.2.2).mono ?_
  rintro e w1 ⟨r,T',rfl,h1,h2,h3⟩
  have hb1:=(h3.block _ hsb hsF).trans hs.blk
  have hx1:ewz w1 x gt bl o:=(h3.block _ (block_lt (hs.mkat km)) hxF).trans (hs.mkat km)
  exact⟨r,rfl,cellOf hb1 4,aez hb1 4,Ran.flag (did:=did) (fu':=.pointer none) (fn':=⟨#[]⟩) r hsF hsb ⟨h1,λe=>absurd e (by omega)⟩ h2 ⟨hb1,λ_=>hx1,λe=>absurd e (by omega)⟩ (atz h3 λb hb=>.inl hb)⟩
 have c2:w.cell? ⟨sb,2,none⟩=some (doF o x):=cellOf hs.blk 2
 rw[hd]at c2
 clear hs hd hF h hg
 go_enter Tryz.func159,Tryz.ntmps159
 go_wp2_with (go_at_call 107;refine hcall.mono ?_;rintro e w1 ⟨r,rfl,c4,f4,HR⟩;clear hcall)
 go_ret
 exact⟨r,rfl,HR.out⟩
theorem nHz (h:TreeM F w mb B U bl kv dr T) (hF:∀b,F b→b<w.heap.size) (hg:w.cell? ⟨gt,0,none⟩=some (.map (some mb))) (hs:StAt w gt bl o sb x did fu fn) (hsF:¬F sb) (hxF:¬F x) (ok:n0z T U dr o) (km:o.kd=3):Calls Tryz.prog 159 #[.pointer (some ⟨sb,0,none⟩)] w λe w'=>∃r,e=.returned (.bool r)∧Ran F mb B U bl dr T o gt sb x w w' r:=by
 have hsb:=block_lt hs.blk
 have kn:mkK o=false:=by simp[mkK,km]
 have hd:doF o x=.func (.func 109) #[.pointer (some ⟨x,0,none⟩)] #[]:=by unfold doF;rw[if_neg (by rw[kn];decide),if_pos km]
 have hcall:Calls Tryz.prog 109 #[.pointer (some ⟨x,0,none⟩)] w λe w1=>∃r,e=.returned (.bool r)∧w1.cell? ⟨sb,4,none⟩=some (.bool did)∧w1.frozen? ⟨sb,4,none⟩=false∧Hid (Ran F mb B U bl dr T o gt sb x w (w1.setCell ⟨sb,4,none⟩ (.bool r)) r):=by
  refine(lDz h hF gt x o fu fn hg (hs.mvat km) hxF km ok.h0).mono ?_
  rintro e w1 ⟨r,T',rfl,hM⟩
  have hxs:sb≠x:=aiz hs.blk (hs.mvat km) (by decide)
  have hb1:=(hM.only.block _ hsb (λe=>e.elim hsF hxs)).trans hs.blk
  have ho:Only (λb=>F b∨b=x∧o.kd=3) w w1:=atz hM.only λb hb=>hb.imp id λe=>⟨e,km⟩
  refine⟨r,rfl,cellOf hb1 4,aez hb1 4, ?_⟩
  cases r with
  |false=>exact Ran.flag (did:=did) (fu':=fu) (fn':=fn) false hsF hsb ⟨hM.step,λ_ e=>by cases e⟩ hM.tree ⟨hb1,λe=>absurd e (by rw[kn];decide),λ_=>hM.no rfl⟩ ho
  |true=>
   obtain⟨k,b,e1,e2,e3,e4⟩:=hM.yes rfl
   exact Ran.flag (did:=did) (fu':=.pointer (some ⟨bl (b.pt,b.pn),0,none⟩)) (fn':=b.nm) true hsF hsb ⟨hM.step,λ_ _=>⟨k,b,e1,e2,e3,rfl,rfl,h.par (o.ot,o.on) (h.inU (by unfold aTz;rw[e1];simp)) _ _ (bKz (q:=(o.ot,o.on)) e1 e2)⟩⟩ hM.tree ⟨hb1,λe=>absurd e (by rw[kn];decide),λ_=>e4⟩ ho
 have c2:w.cell? ⟨sb,2,none⟩=some (doF o x):=cellOf hs.blk 2
 rw[hd]at c2
 clear hs hd hF h hg
 go_enter Tryz.func159,Tryz.ntmps159
 go_wp2_with (go_at_call 109;refine hcall.mono ?_;rintro e w1 ⟨r,rfl,c4,f4,HR⟩;clear hcall)
 go_ret
 exact⟨r,rfl,HR.out⟩
theorem nJz (h:TreeM F w mb B U bl kv dr T) (hs:StAt w gt bl o sb x did fu fn) (hsF:¬F sb) (kn:mkK o=false) (k3:¬o.kd=3):Calls Tryz.prog 159 #[.pointer (some ⟨sb,0,none⟩)] w λe w'=>∃r,e=.returned (.bool r)∧Ran F mb B U bl dr T o gt sb x w w' r:=by
 have hsb:=block_lt hs.blk
 have hd:doF o x=.func (.func 111) #[.agg #[]] #[]:=by unfold doF;rw[if_neg (by rw[kn];decide),if_neg k3]
 have hcall:Calls Tryz.prog 111 #[.agg #[]] w λe w1=>∃r,e=.returned (.bool r)∧w1.cell? ⟨sb,4,none⟩=some (.bool did)∧w1.frozen? ⟨sb,4,none⟩=false∧Hid (Ran F mb B U bl dr T o gt sb x w (w1.setCell ⟨sb,4,none⟩ (.bool r)) r):=by
  refine(m6z w).mono ?_
  rintro e w1 ⟨rfl,hb⟩
  have hb1:=(hb.block _ hsb).trans hs.blk
  refine⟨true,rfl,cellOf hb1 4,aez hb1 4,Ran.flag (did:=did) (fu':=fu) (fn':=fn) true hsF hsb ⟨λs=>.other ?_,λe=>absurd e k3⟩ ⟨kv,(h.below hb).mono λb hb=>.inl hb⟩ ⟨hb1,λe=>absurd e (by rw[kn];decide),λe=>absurd e k3⟩ (Below.only hb _)⟩
  rintro(e|e|e)
  ·rw[mkK_iff.2 (.inl e)]at kn;cases kn
  ·rw[mkK_iff.2 (.inr e)]at kn;cases kn
  ·exact k3 e
 have c2:w.cell? ⟨sb,2,none⟩=some (doF o x):=cellOf hs.blk 2
 rw[hd]at c2
 clear hs hd h
 go_enter Tryz.func159,Tryz.ntmps159
 go_wp2_with (go_at_call 111;refine hcall.mono ?_;rintro e w1 ⟨r,rfl,c4,f4,HR⟩;clear hcall)
 go_ret
 exact⟨r,rfl,HR.out⟩
theorem jdz (h:TreeM F w mb B U bl kv dr T) (hF:∀b,F b→b<w.heap.size) (hg:w.cell? ⟨gt,0,none⟩=some (.map (some mb))) (hs:StAt w gt bl o sb x did fu fn) (hsF:¬F sb) (hxF:¬F x) (ok:n0z T U dr o):Calls Tryz.prog 159 #[.pointer (some ⟨sb,0,none⟩)] w λe w'=>∃r,e=.returned (.bool r)∧Ran F mb B U bl dr T o gt sb x w w' r:=by
 cases km:mkK o with
 |true=>exact nPz h hF hg hs hsF hxF ok km
 |false=>
  by_cases k3:o.kd=3
  ·exact nHz h hF hg hs hsF hxF ok k3
  ·exact nJz h hs hsF km k3
end
end Go.Proofs.YthhakekbffembaaGreatDoor.Ck.Y

namespace Go.Proofs.YthhakekbffembaaGreatDoor.Ck.Y
open Go.RowKit Go.Maps Go.Lib
variable {T T':List OB} {s:Nat} {o:OG}
structure eKz (F:Nat→Prop) (mb:Nat) (B U:List PI) (bl:PI→Nat) (dr:PI→Bool) (T:List OB) (o:OG) (gt sb x:Nat) (r:Bool) (w w':World):Prop where
 out:∃fu fn,(∃kv',TreeM (ajz F w w') w' mb B U bl kv' dr T)∧StAt w' gt bl o sb x r fu fn
 only:Only (λb=>F b∨(b=x∧o.kd=3)) w w'
theorem StepT.no (h:StepT T s o T' (s+1)):T'=T:=by
 generalize e:s+1=s' at h
 cases h<;>first|rfl|omega
theorem StepT.mk_yes (h:StepT T s o T' s) (hk:o.kd=1∨o.kd=2):T'=T++[bFz o]∧aoz T o.ot o.on=none:=by
 generalize e:s=s' at h
 cases h with
 |make h1 h2 h3 h4=>exact⟨rfl,h4⟩
 |move h1=>omega
 |other h1=>exact absurd (hk.elim .inl λe=>.inr (.inl e)) h1
theorem StepT.other_yes (h:StepT T s o T' s) (hk:¬(o.kd=1∨o.kd=2)) (h3:¬o.kd=3):T'=T:=by
 generalize e:s=s' at h
 cases h with
 |make h1=>exact absurd h1 hk
 |move h1=>exact absurd h1 h3
 |other=>rfl
section
variable {F:Nat→Prop} {w:World} {mb:Nat} {B U:List PI} {bl:PI→Nat} {kv:PI→Value} {dr:PI→Bool} {T T':List OB} {gt sb x:Nat} {o:OG} {fu:Value} {fn:ByteArray}
theorem n8z (h:TreeM F w mb B U bl kv dr T') (hs:StAt w gt bl o sb x false fu fn) (hu:dcz bl U o T T' false fu fn):
  Calls Tryz.prog 103 #[.pointer (some ⟨sb,0,none⟩)] w λe w'=>e=.returned (.bool false)∧eKz F mb B U bl dr T o gt sb x false w w':=by
 have e:T'=T:=(hu.1 0).no
 subst e
 have HR:Hid (eKz F mb B U bl dr T' o gt sb x false w w):=⟨⟨fu,fn,⟨kv,h.mono λb hb=>.inl hb⟩,hs⟩,Only.refl _ _⟩
 have c4:w.cell? ⟨sb,4,none⟩=some (.bool false):=cellOf hs.blk 4
 clear h hs hu
 go_enter Tryz.func103,Tryz.ntmps103
 go_wp2_with fail
 go_ret
 exact⟨rfl,HR.out⟩
theorem moz (h:TreeM F w mb B U bl kv dr T') (hF:∀b,F b→b<w.heap.size) (hg:w.cell? ⟨gt,0,none⟩=some (.map (some mb))) (hgF:¬F gt) (hs:StAt w gt bl o sb x true fu fn) (hsF:¬F sb) (hxF:¬F x) (h0:¬o.ot=0) (hu:dcz bl U o T T' true fu fn) (hwf:WfT T) (km:mkK o=true):
  Calls Tryz.prog 103 #[.pointer (some ⟨sb,0,none⟩)] w λe w'=>e=.returned (.bool true)∧eKz F mb B U bl dr T o gt sb x true w w':=by
 have hkk:=mkK_iff.1 km
 obtain⟨rfl,hf⟩:=(hu.1 0).mk_yes hkk
 have hsb:=block_lt hs.blk
 have hd:unF o x=.func (.func 108) #[.pointer (some ⟨x,0,none⟩)] #[]:=by unfold unF;rw[if_pos km]
 have hcall:Calls Tryz.prog 108 #[.pointer (some ⟨x,0,none⟩)] w λe w1=>e=.returned (.tuple #[])∧w1.cell? ⟨sb,4,none⟩=some (.bool true)∧Hid (eKz F mb B U bl dr T o gt sb x true w w1):=by
  refine(kUz gt x o h hF hg (hs.mkat km) hgF hxF hf h0 hwf).mono ?_
  rintro e w1 ⟨rfl,h2,h3⟩
  have hb1:=(h3.block _ hsb hsF).trans hs.blk
  have hx1:ewz w1 x gt bl o:=(h3.block _ (block_lt (hs.mkat km)) hxF).trans (hs.mkat km)
  exact⟨rfl,cellOf hb1 4,⟨fu,fn,h2,hb1,λ_=>hx1,λe=>absurd e (by omega)⟩,atz h3 λb hb=>.inl hb⟩
 have c3:w.cell? ⟨sb,3,none⟩=some (unF o x):=cellOf hs.blk 3
 have c4:w.cell? ⟨sb,4,none⟩=some (.bool true):=cellOf hs.blk 4
 rw[hd]at c3
 clear h hs hu hd hF hg
 go_enter Tryz.func103,Tryz.ntmps103
 go_wp2_with (go_at_call 108;refine hcall.mono ?_;rintro e w1 ⟨rfl,d4,HR⟩;clear hcall c3 c4)
 go_ret
 exact⟨rfl,HR.out⟩
theorem mkz (h:TreeM F w mb B U bl kv dr T') (hF:∀b,F b→b<w.heap.size) (hg:w.cell? ⟨gt,0,none⟩=some (.map (some mb))) (hs:StAt w gt bl o sb x true fu fn) (hsF:¬F sb) (hxF:¬F x) (hu:dcz bl U o T T' true fu fn) (hwf:WfT T) (km:o.kd=3):
  Calls Tryz.prog 103 #[.pointer (some ⟨sb,0,none⟩)] w λe w'=>e=.returned (.bool true)∧eKz F mb B U bl dr T o gt sb x true w w':=by
 obtain⟨k,b,hq,hb,rfl,rfl,rfl,_⟩:=hu.2 km rfl
 have hsb:=block_lt hs.blk
 have kn:mkK o=false:=by simp[mkK,km]
 have hd:unF o x=.func (.func 110) #[.pointer (some ⟨x,0,none⟩)] #[]:=by unfold unF;rw[if_neg (by rw[kn];decide),if_pos km]
 have hcall:Calls Tryz.prog 110 #[.pointer (some ⟨x,0,none⟩)] w λe w1=>e=.returned (.tuple #[])∧w1.cell? ⟨sb,4,none⟩=some (.bool true)∧Hid (eKz F mb B U bl dr T o gt sb x true w w1):=by
  refine(ldz gt x o h hF hg (hs.mvat km) hxF hq hb hwf).mono ?_
  rintro e w1 ⟨rfl,h2,h3,h4⟩
  have hxs:sb≠x:=aiz hs.blk (hs.mvat km) (by decide)
  have hb1:=(h3.block _ hsb (λe=>e.elim hsF hxs)).trans hs.blk
  exact⟨rfl,cellOf hb1 4,⟨.pointer none,⟨#[]⟩,h2,hb1,λe=>absurd e (by rw[kn];decide),λ_=>h4⟩,atz h3 λb hb=>hb.imp id λe=>⟨e,km⟩⟩
 have c3:w.cell? ⟨sb,3,none⟩=some (unF o x):=cellOf hs.blk 3
 have c4:w.cell? ⟨sb,4,none⟩=some (.bool true):=cellOf hs.blk 4
 rw[hd]at c3
 clear h hs hu hd hF hg
 go_enter Tryz.func103,Tryz.ntmps103
 go_wp2_with (go_at_call 110;refine hcall.mono ?_;rintro e w1 ⟨rfl,d4,HR⟩;clear hcall c3 c4)
 go_ret
 exact⟨rfl,HR.out⟩
theorem mDz (h:TreeM F w mb B U bl kv dr T') (hs:StAt w gt bl o sb x true fu fn) (hu:dcz bl U o T T' true fu fn) (kn:mkK o=false) (k3:¬o.kd=3):
  Calls Tryz.prog 103 #[.pointer (some ⟨sb,0,none⟩)] w λe w'=>e=.returned (.bool true)∧eKz F mb B U bl dr T o gt sb x true w w':=by
 have e:T'=T:=(hu.1 0).other_yes (λe=>by rw[mkK_iff.2 e]at kn;cases kn) k3
 subst e
 have hsb:=block_lt hs.blk
 have hd:unF o x=.func (.func 112) #[.agg #[]] #[]:=by unfold unF;rw[if_neg (by rw[kn];decide),if_neg k3]
 have hcall:Calls Tryz.prog 112 #[.agg #[]] w λe w1=>e=.returned (.tuple #[])∧w1.cell? ⟨sb,4,none⟩=some (.bool true)∧Hid (eKz F mb B U bl dr T' o gt sb x true w w1):=by
  refine(lJz w).mono ?_
  rintro e w1 ⟨rfl,hb⟩
  have hb1:=(hb.block _ hsb).trans hs.blk
  exact⟨rfl,cellOf hb1 4,⟨fu,fn,⟨kv,(h.below hb).mono λb hb=>.inl hb⟩,hb1,λe=>absurd e (by rw[kn];decide),λe=>absurd e k3⟩,Below.only hb _⟩
 have c3:w.cell? ⟨sb,3,none⟩=some (unF o x):=cellOf hs.blk 3
 have c4:w.cell? ⟨sb,4,none⟩=some (.bool true):=cellOf hs.blk 4
 rw[hd]at c3
 clear h hs hu hd
 go_enter Tryz.func103,Tryz.ntmps103
 go_wp2_with (go_at_call 112;refine hcall.mono ?_;rintro e w1 ⟨rfl,d4,HR⟩;clear hcall c3 c4)
 go_ret
 exact⟨rfl,HR.out⟩
theorem lCz {r:Bool} (h:TreeM F w mb B U bl kv dr T') (hF:∀b,F b→b<w.heap.size) (hg:w.cell? ⟨gt,0,none⟩=some (.map (some mb))) (hgF:¬F gt) (hs:StAt w gt bl o sb x r fu fn) (hsF:¬F sb) (hxF:¬F x) (h0:¬o.ot=0) (hu:dcz bl U o T T' r fu fn) (hwf:WfT T):
  Calls Tryz.prog 103 #[.pointer (some ⟨sb,0,none⟩)] w λe w'=>e=.returned (.bool r)∧eKz F mb B U bl dr T o gt sb x r w w':=by
 cases r with
 |false=>exact n8z h hs hu
 |true=>
  cases km:mkK o with
  |true=>exact moz h hF hg hgF hs hsF hxF h0 hu hwf km
  |false=>
   by_cases k3:o.kd=3
   ·exact mkz h hF hg hs hsF hxF hu hwf k3
   ·exact mDz h hs hu km k3
end
structure SR where
 o:OG
 sb:Nat
 x:Nat
 did:Bool
 fu:Value
 fn:ByteArray
inductive DoneT (bl:PI→Nat) (U:List PI):List SR→List OB→Nat→Prop
 |nil:DoneT bl U [] [] 0
 |snoc {L:List SR} {T T':List OB} {s:Nat} {e:SR}:DoneT bl U L T s→dcz bl U e.o T T' e.did e.fu e.fn→DoneT bl U (L++[e]) T' (if e.did=true then s else s+1)
section
variable {bl:PI→Nat} {U:List PI}
theorem DoneT.fold {L:List SR} {T:List OB} {s:Nat} (h:DoneT bl U L T s):FoldT [] 0 (L.map (·.o)) T s:=by
 induction h with
 |nil=>exact .nil _ _
 |snoc h1 h2 ih=>rw[List.map_append];exact ih.snoc (h2.1 _)
theorem DoneT.wf {L:List SR} {T:List OB} {s:Nat} (h:DoneT bl U L T s) (h0:∀e∈L,¬e.o.ot=0):WfT T:=WfT.nil.fold h.fold (λo ho=>by
 obtain⟨e,he,rfl⟩:=List.mem_map.1 ho
 exact h0 e he)
theorem DoneT.last {L:List SR} {e:SR} {T':List OB} {s':Nat} (h:DoneT bl U (L++[e]) T' s'):∃T s,DoneT bl U L T s∧dcz bl U e.o T T' e.did e.fu e.fn∧s'=if e.did=true then s else s+1:=by
 generalize hL:L++[e]=L' at h
 cases h with
 |nil=>simp at hL
 |snoc h1 h2=>
  obtain⟨e1,e2⟩:=List.append_inj' hL rfl
  cases e1
  cases e2
  exact⟨_,_,h1,h2,rfl⟩
theorem DoneT.mono {bl':PI→Nat} {U':List PI} {L:List SR} {T:List OB} {s:Nat} (h:DoneT bl U L T s) (hb:∀q∈U,bl' q=bl q) (hu:∀q∈U,q∈U'):DoneT bl' U' L T s:=by
 induction h with
 |nil=>exact .nil
 |snoc h1 h2 ih=>
  refine .snoc ih ⟨h2.1,λk r=> ?_⟩
  obtain⟨k,b,e1,e2,e3,e4,e5,e6⟩:=h2.2 k r
  exact⟨k,b,e1,e2,e3,by rw[hb _ e6];exact e4,e5,hu _ e6⟩
theorem DoneT.ids {L:List SR} {T:List OB} {s:Nat} (h:DoneT bl U L T s):∀y∈T,∃e∈L,mkK e.o=true∧idp y=(e.o.ot,e.o.on):=by
 induction h with
 |nil=>intro y hy;simp at hy
 | @snoc L T T' s e h1 h2 ih=>
  intro y hy
  have keep:∀y∈T,∃e'∈L++[e],mkK e'.o=true∧idp y=(e'.o.ot,e'.o.on):=λy hy=>by
   obtain⟨e',he',h3⟩:=ih y hy
   exact⟨e',List.mem_append.2 (.inl he'),h3⟩
  have hst:=h2.1 0
  generalize (if e.did=true then 0 else 0+1)=s' at hst
  cases hst with
  |make k1=>
   rcases List.mem_append.1 hy with hy|hy
   ·exact keep y hy
   ·rw[List.mem_singleton.1 hy]
    exact⟨e,by simp,mkK_iff.2 k1,rfl⟩
  |made=>exact keep y hy
  | @move k b k1 k2 k3 k4 k5 k6=>
   have:idp y∈(T.set k (aQz e.o b)).map idp:=List.mem_map.2 ⟨y,hy,rfl⟩
   rw[buz (b':=aQz e.o b) k3 rfl]at this
   obtain⟨z,hz,ez⟩:=List.mem_map.1 this
   rw[← ez]
   exact keep z hz
  |moved=>exact keep y hy
  |other=>exact keep y hy
end
end Go.Proofs.YthhakekbffembaaGreatDoor.Ck.Y

namespace Go.Proofs.YthhakekbffembaaGreatDoor.Ck.Y
open Go.RowKit Go.Maps Go.Lib
structure VB where
 b:Nat
 fv:Value
 cn:Value
structure SM (F FO:Nat→Prop) (w:World) (gt:Nat) (v:Value) (L:List SR) (U:List PI) (bl:PI→Nat) (dr:PI→Bool):Prop where
 row:RowP 117 w 0 v (L.map (·.sb))
 st:∀e∈L,StAt w gt bl e.o e.sb e.x e.did e.fu e.fn
 nd:L.Pairwise λa b=>a.sb≠b.sb∧a.x≠b.x
 rise:L.Pairwise λa b=>avz (a.o.t,a.o.n) (b.o.t,b.o.n)
 ok:∀e∈L,¬e.o.ot=0∧(mkK e.o=true→e.o.ot=e.o.t∧e.o.on=e.o.n∧awz e.o.pt e.o.pn=false∧(e.o.ot,e.o.on)∈U∧dr (e.o.ot,e.o.on)=decide (e.o.kd=1))
 len:L.length≤800
 sub:∀b,FO b→F b
 gtF:F gt∧¬FO gt
 rowF:∀g,v.ownBlock=some g→F g∧¬FO g
 stF:∀e∈L,F e.sb∧¬FO e.sb∧F e.x∧¬FO e.x
 low:∀b,F b→b<w.heap.size
theorem hEz {α:Type} {R:α→α→Prop} (hs:∀a b,R a b→R b a) {L:List α} (h:L.Pairwise R) {i j:Nat} {a b:α} (hi:L[i]? =some a) (hj:L[j]? =some b) (hne:i≠j):R a b:=by
 obtain⟨h1,e1⟩:=List.getElem?_eq_some_iff.1 hi
 obtain⟨h2,e2⟩:=List.getElem?_eq_some_iff.1 hj
 rcases Nat.lt_or_gt_of_ne hne with hlt|hlt
 ·have:=List.pairwise_iff_getElem.1 h i j h1 h2 hlt
  rwa [e1,e2]at this
 ·have:=List.pairwise_iff_getElem.1 h j i h2 h1 hlt
  rw[e1,e2]at this
  exact hs _ _ this
theorem c1z {α β:Type} (f:α→β) {L:List α} {d:Nat} {e e':α} (hd:L[d]? =some e) (h:f e'=f e):(L.set d e').map f=L.map f:=by
 rw[List.map_set,h]
 have hlt:=(List.getElem?_eq_some_iff.1 hd).1
 have:(L.map f)[d]'(by rw[List.length_map];exact hlt)=f e:=by rw[List.getElem_map,(List.getElem?_eq_some_iff.1 hd).2]
 rw[← this]
 exact List.set_getElem_self _
theorem duz {α β:Type} (f:α→β) {R:β→β→Prop} {L:List α} {d:Nat} {e e':α} (hd:L[d]? =some e) (h:f e'=f e) (hp:L.Pairwise λa b=>R (f a) (f b)):(L.set d e').Pairwise λa b=>R (f a) (f b):=by
 rw[← List.pairwise_map]at hp⊢
 rw[c1z f hd h]
 exact hp
section
variable {F FO:Nat→Prop} {w w':World} {gt:Nat} {v:Value} {L:List SR} {U:List PI} {bl:PI→Nat} {dr:PI→Bool}
theorem SM.turn (h:SM F FO w gt v L U bl dr) {d:Nat} {e:SR} (hd:L[d]? =some e) {did:Bool} {fu:Value} {fn:ByteArray} (hs:StAt w' gt bl e.o e.sb e.x did fu fn) (ho:Only (λb=>FO b∨b=e.sb∨(b=e.x∧e.o.kd=3)) w w'):
  SM (ajz F w w') (ajz FO w w') w' gt v (L.set d ⟨e.o,e.sb,e.x,did,fu,fn⟩) U bl dr∧Only F w w':=by
 have he:e∈L:=List.mem_of_getElem? hd
 have hse:=h.st e he
 have nogrow:∀b,F b→¬FO b→¬ajz FO w w' b:=λb h1 h2 hg=>by
  rcases hg with hg|hg
  ·exact h2 hg
  ·have:=h.low b h1;omega
 have hmem:∀f∈L.set d ⟨e.o,e.sb,e.x,did,fu,fn⟩,f=⟨e.o,e.sb,e.x,did,fu,fn⟩∨∃j,j≠d∧L[j]? =some f:=λf hf=>by
  obtain⟨j,hj,ej⟩:=List.getElem_of_mem hf
  rw[List.length_set]at hj
  by_cases e':j=d
  ·subst e'
   left
   rw[← ej,List.getElem_set_self]
  ·right
   refine⟨j,e', ?_⟩
   rw[← ej,List.getElem_set_ne (λe''=>e' e''.symm),List.getElem?_eq_getElem hj]
 have blk_kept:∀{b:Nat} {cs:Array Value} {t:TypeId},w.heap[b]? =some (.cells cs t (0,0))→¬FO b→b≠e.sb→(e.o.kd=3→b≠e.x)→w'.heap[b]? =some (.cells cs t (0,0)):=λ{b cs t} hb h1 h2 h3=>
  (ho.block _ (block_lt hb) (λhh=>by rcases hh with hh|hh|hh;exact h1 hh;exact h2 hh;exact h3 hh.2 hh.1)).trans hb
 refine⟨⟨?_,λf hf=> ?_, ?_, ?_,λf hf=> ?_,by rw[List.length_set];exact h.len,λb hb=> ?_,⟨.inl h.gtF.1,nogrow _ h.gtF.1 h.gtF.2⟩,λg hg=>⟨.inl (h.rowF g hg).1,nogrow _ (h.rowF g hg).1 (h.rowF g hg).2⟩,λf hf=> ?_,λb hb=> ?_⟩,atz ho λb hb=> ?_⟩
 ·rw[c1z (·.sb) (e':=⟨e.o,e.sb,e.x,did,fu,fn⟩) hd rfl]
  refine h.row.kept ho λg hg hh=> ?_
  obtain⟨_,_,cur,ht⟩:=h.row.tag hg
  rcases hh with hh|hh|hh
  ·exact(h.rowF g hg).2 hh
  ·exact aiz ht hse.blk (by decide) hh
  ·exact aiz ht (hse.mvat hh.2) (by decide) hh.1
 ·rcases hmem f hf with rfl|⟨j,hj,hf'⟩
  ·exact hs
  ·have hfm:=List.mem_of_getElem? hf'
   have hsf:=h.st f hfm
   have hne:=hEz (R:=λa b=>a.sb≠b.sb∧a.x≠b.x) (λa b h=>⟨h.1.symm,h.2.symm⟩) h.nd hf' hd hj
   have hF:=h.stF f hfm
   exact⟨blk_kept hsf.blk hF.2.1 hne.1 (λk=>aiz hsf.blk (hse.mvat k) (by decide)),
    λk=>blk_kept (hsf.mkat k) hF.2.2.2 (aiz (hsf.mkat k) hse.blk (by decide)) (λ_=>hne.2),
    λk=>blk_kept (hsf.mvat k) hF.2.2.2 (aiz (hsf.mvat k) hse.blk (by decide)) (λ_=>hne.2)⟩
 ·exact duz (λa:SR=>(a.sb,a.x)) (R:=λa b=>a.1≠b.1∧a.2≠b.2) hd rfl h.nd
 ·exact duz (λa:SR=>(a.o.t,a.o.n)) (R:=avz) hd rfl h.rise
 ·rcases hmem f hf with rfl|⟨j,_,hf'⟩
  ·exact h.ok e he
  ·exact h.ok f (List.mem_of_getElem? hf')
 ·rcases hb with hb|hb
  ·exact .inl (h.sub b hb)
  ·exact .inr hb
 ·have key:∀f∈L,ajz F w w' f.sb∧¬ajz FO w w' f.sb∧ajz F w w' f.x∧¬ajz FO w w' f.x:=λf hf=>
   have hF:=h.stF f hf
   ⟨.inl hF.1,nogrow _ hF.1 hF.2.1,.inl hF.2.2.1,nogrow _ hF.2.2.1 hF.2.2.2⟩
  rcases hmem f hf with rfl|⟨j,_,hf'⟩
  ·exact key e he
  ·exact key f (List.mem_of_getElem? hf')
 ·rcases hb with hb|hb
  ·have:=h.low b hb;have:=ho.size;omega
  ·exact hb.2
 ·rcases hb with hb|hb|hb
  ·exact h.sub b hb
  ·rw[hb];exact(h.stF e he).1
  ·rw[hb.1];exact(h.stF e he).2.2.1
theorem SM.kept {S:Nat→Prop} (h:SM F FO w gt v L U bl dr) (ho:Only S w w') (hS:∀b,S b→b=gt∨FO b∨¬F b) (hgt:∃cs,w.heap[gt]? =some (.cells cs 77 (0,0))):SM F FO w' gt v L U bl dr:=by
 obtain⟨cs,hgt⟩:=hgt
 have no:∀{b:Nat} {cs:Array Value} {t:TypeId},w.heap[b]? =some (.cells cs t (0,0))→t≠77→F b→¬FO b→¬S b:=λhb ht h1 h2 hs=>by
  rcases hS _ hs with e|e|e
  ·exact aiz hb hgt ht e
  ·exact h2 e
  ·exact e h1
 refine⟨h.row.kept ho λg hg=> ?_,λe he=> ?_,h.nd,h.rise,h.ok,h.len,h.sub,h.gtF,h.rowF,h.stF,λb hb=>by have:=h.low b hb;have:=ho.size;omega⟩
 ·obtain⟨_,_,cur,ht⟩:=h.row.tag hg
  exact no ht (by decide) (h.rowF g hg).1 (h.rowF g hg).2
 ·have hs:=h.st e he
  have hF:=h.stF e he
  exact⟨(ho.block _ (block_lt hs.blk) (no hs.blk (by decide) hF.1 hF.2.1)).trans hs.blk,
   λk=>(ho.block _ (block_lt (hs.mkat k)) (no (hs.mkat k) (by decide) hF.2.2.1 hF.2.2.2)).trans (hs.mkat k),
   λk=>(ho.block _ (block_lt (hs.mvat k)) (no (hs.mvat k) (by decide) hF.2.2.1 hF.2.2.2)).trans (hs.mvat k)⟩
end
structure TSm (F:Nat→Prop) (w:World) (gt:VB) (l:List OG) (d:Nat) (T:List OB) (s:Nat) (mb:Nat) (B U:List PI) (bl:PI→Nat) (dr:PI→Bool):Prop where
 out:∃FO kv L v,SM F FO w gt.b v L U bl dr∧L.map (·.o)=l∧w.heap[gt.b]? =some (.cells #[.map (some mb),v,.int .i64 (d:Nat),.int .i64 (s:Nat),gt.fv,gt.cn] 77 (0,0))∧DoneT bl U (L.take d) T s∧TreeM FO w mb B U bl kv dr T
 dl:d≤l.length
 sd:s≤d
 uid:∀q∈U,q.1=0∨∃o∈l,q=(o.t,o.n)
 ul:U.length≤l.length+2
theorem DoneT.le {bl:PI→Nat} {U:List PI} {L:List SR} {T:List OB} {s:Nat} (h:DoneT bl U L T s):s≤L.length:=by
 induction h with
 |nil=>exact Nat.le_refl _
 |snoc h1 h2 ih=>rw[List.length_append];split<;>simp<;>omega
theorem SM.ok_now {F FO:Nat→Prop} {w:World} {gt:Nat} {v:Value} {L:List SR} {U:List PI} {bl:PI→Nat} {dr:PI→Bool} {T:List OB} {s d:Nat} {e:SR} (h:SM F FO w gt v L U bl dr) (hD:DoneT bl U (L.take d) T s) (hd:L[d]? =some e):n0z T U dr e.o:=by
 have he:=h.ok e (List.mem_of_getElem? hd)
 refine⟨he.1,λk=> ?_⟩
 obtain⟨e1,e2,e3,e4,e5⟩:=he.2 k
 refine⟨e5,e4, ?_,e3⟩
 cases hf:aoz T e.o.ot e.o.on with
 |none=>rfl
 |some j=>
  obtain⟨y,hy,h1,h2⟩:=aCz hf
  obtain⟨f,hf',k',ey⟩:=hD.ids y (List.mem_of_getElem? hy)
  obtain⟨i,hi,ei⟩:=List.getElem_of_mem hf'
  rw[List.length_take]at hi
  rw[List.getElem_take]at ei
  have hdl:=(List.getElem?_eq_some_iff.1 hd).1
  have hr:=List.pairwise_iff_getElem.1 h.rise i d (by omega) hdl (by omega)
  rw[ei,(List.getElem?_eq_some_iff.1 hd).2]at hr
  obtain⟨f1,f2,_⟩:=(h.ok f (by rw[← ei];exact List.getElem_mem _)).2 k'
  have q1:e.o.ot=f.o.ot:=h1.symm.trans (congrArg Prod.fst ey)
  have q2:e.o.on=f.o.on:=h2.symm.trans (congrArg Prod.snd ey)
  rw[← f1,← f2,← e1,← e2,q1,q2]at hr
  exact absurd hr (aYz _)
end Go.Proofs.YthhakekbffembaaGreatDoor.Ck.Y

namespace Go.Proofs.YthhakekbffembaaGreatDoor.Ck.Y
open Go.RowKit Go.Maps Go.Lib
def b6z (gt:Nat) (w:World):Nat:=match w.cell? ⟨gt,2,none⟩with|some (.int _ z)=>z.toNat|_=>0
theorem hiz {F:Nat→Prop} {a b c:World} (hab:a.heap.size≤b.heap.size) (hbc:b.heap.size≤c.heap.size) {x:Nat} (h:ajz (ajz F a b) b c x):ajz F a c x:=by
 rcases h with(h|h)|h
 ·exact .inl h
 ·exact .inr ⟨h.1,by omega⟩
 ·exact .inr ⟨by omega,h.2⟩
theorem jEz {F:Nat→Prop} {a b c:World} (h1:Only F a b) (h2:Only (ajz F a b) b c):Only F a c:=h1.trans h2 λi hi=>by
 rcases hi with hi|hi
 ·exact .inl hi
 ·exact .inr hi.1
theorem SM.mono {F F' FO:Nat→Prop} {w:World} {gt:Nat} {v:Value} {L:List SR} {U:List PI} {bl:PI→Nat} {dr:PI→Bool} (h:SM F FO w gt v L U bl dr) (hF:∀b,F b→F' b) (hl:∀b,F' b→b<w.heap.size):SM F' FO w gt v L U bl dr:=
 ⟨h.row,h.st,h.nd,h.rise,h.ok,h.len,λb hb=>hF b (h.sub b hb),⟨hF _ h.gtF.1,h.gtF.2⟩,λg hg=>⟨hF _ (h.rowF g hg).1,(h.rowF g hg).2⟩,λe he=>⟨hF _ (h.stF e he).1,(h.stF e he).2.1,hF _ (h.stF e he).2.2.1,(h.stF e he).2.2.2⟩,hl⟩
section
variable {F:Nat→Prop} {w w':World} {gt:VB} {d s mb:Nat} {l:List OG} {T:List OB} {B U:List PI} {bl:PI→Nat} {dr:PI→Bool}
theorem TSm.mono {F':Nat→Prop} (h:TSm F w gt l d T s mb B U bl dr) (hF:∀b,F b→F' b) (hl:∀b,F' b→b<w.heap.size):TSm F' w gt l d T s mb B U bl dr:=by
 obtain⟨FO,kv,L,v,hS,hr⟩:=h.out
 exact⟨⟨FO,kv,L,v,hS.mono hF hl,hr⟩,h.dl,h.sd,h.uid,h.ul⟩
theorem TSm.kept {S:Nat→Prop} (h:TSm F w gt l d T s mb B U bl dr) (ho:Only S w w') (hS:∀b,F b→¬S b):TSm F w' gt l d T s mb B U bl dr:=by
 obtain⟨FO,kv,L,v,h1,h2,h3,h4,h5⟩:=h.out
 exact⟨⟨FO,kv,L,v,h1.kept ho (λb hb=>.inr (.inr λe=>hS b e hb)) ⟨_,h3⟩,h2,(ho.block _ (block_lt h3) (hS _ h1.gtF.1)).trans h3,h4,h5.kept ho λb hb=>hS b (h1.sub b hb)⟩,h.dl,h.sd,h.uid,h.ul⟩
theorem TSm.below (h:TSm F w gt l d T s mb B U bl dr) (hb:Below w.heap.size w w'):TSm F w' gt l d T s mb B U bl dr:=h.kept (Below.only hb (λ_=>False)) λ_ _ f=>f
end
theorem StAt.drewr {W:World} {gt:Nat} {bl:PI→Nat} {o:OG} {sb x:Nat} {did:Bool} {fu:Value} {fn:ByteArray} (h:StAt W gt bl o sb x did fu fn):StAt W.drew gt bl o sb x did fu fn:=⟨h.blk,h.mkat,h.mvat⟩
theorem hgz {F FO:Nat→Prop} {W W3 Wf:World} {gt:VB} {d s mb:Nat} {v:Value} {L:List SR} {T:List OB} {B U:List PI} {bl:PI→Nat} {dr:PI→Bool} {e:SR} {r:Bool} (hS:SM F FO W gt.b v L U bl dr) (hg:W.heap[gt.b]? =some (.cells #[.map (some mb),v,.int .i64 (d:Nat),.int .i64 (s:Nat),gt.fv,gt.cn] 77 (0,0))) (hD:DoneT bl U (L.take d) T s) (hd:L[d]? =some e) (hR:Ran FO mb B U bl dr T e.o gt.b e.sb e.x W W3 r) (hui:∀q∈U,q.1=0∨∃o∈L.map (·.o),q=(o.t,o.n)) (hul:U.length≤(L.map (·.o)).length+2) (hof:Only (· =gt.b) W3 Wf) (hgf:Wf.heap[gt.b]? =some (.cells #[.map (some mb),v,.int .i64 (d+1:Nat),.int .i64 ((if r=true then s else s+1:Nat):Nat),gt.fv,gt.cn] 77 (0,0))):
  (∃T',TSm (ajz F W Wf) Wf gt (L.map (·.o)) (d+1) T' (if r=true then s else s+1) mb B U bl dr)∧Only F W Wf:=by
 obtain⟨T',fu,fn,hu,⟨kv',hT⟩,hst⟩:=hR.out
 obtain⟨hS3,hO3⟩:=hS.turn hd hst hR.only
 have hdl:=(List.getElem?_eq_some_iff.1 hd).1
 have hse:=hS.st e (List.mem_of_getElem? hd)
 have hg3:W3.heap[gt.b]? =_:=(hR.only.block _ (block_lt hg) (λhh=>by
  rcases hh with hh|hh|hh
  ·exact hS.gtF.2 hh
  ·exact aiz hg hse.blk (by decide) hh
  ·exact aiz hg (hse.mvat hh.2) (by decide) hh.1)).trans hg
 have hSf:=hS3.kept hof (λb hb=>.inl hb) ⟨_,hg3⟩
 have s3:=hR.only.size
 have sf:=hof.size
 have hD':DoneT bl U ((L.set d ⟨e.o,e.sb,e.x,r,fu,fn⟩).take (d+1)) T' (if r=true then s else s+1):=by
  have e1:(L.set d ⟨e.o,e.sb,e.x,r,fu,fn⟩).take (d+1)=L.take d++[⟨e.o,e.sb,e.x,r,fu,fn⟩]:=by
   rw[List.take_add_one,List.take_set_of_le (Nat.le_refl _)]
   simp[hdl]
  rw[e1]
  exact .snoc hD hu
 have hle:=hD'.le
 rw[List.length_take,List.length_set]at hle
 refine⟨⟨T',⟨ajz FO W W3,kv',L.set d ⟨e.o,e.sb,e.x,r,fu,fn⟩,v,hSf.mono (λb hb=> ?_) (λb hb=> ?_),c1z (·.o) (e':=⟨e.o,e.sb,e.x,r,fu,fn⟩) hd rfl,hgf,hD',hT.kept hof λb hb hh=>hS3.gtF.2 (by rw[← hh];exact hb)⟩,by rw[List.length_map];omega,by omega,hui,hul⟩, ?_⟩
 ·rcases hb with hb|hb
  ·exact .inl hb
  ·exact .inr ⟨hb.1,by omega⟩
 ·rcases hb with hb|hb
  ·have:=hS.low b hb;omega
  ·exact hb.2
 ·exact hO3.next (atz hof λb hb=>by rw[hb];exact hS.gtF.1)
theorem mbz (d mb:Nat) (w:World):(Op.equalIn (d+1) 71 (.map (some mb)) (.map none)).run Tryz.prog w=.ok false w:=by
 simp[Op.equalIn,run_underlying Tryz.underlying71]
theorem eYz (mb:Nat) (w:World):(binOp .eql 71 (.map (some mb)) (.map none)).run Tryz.prog w=.ok (.bool false) w:=by
 simp only[binOp]
 simp[Op.equal,Op.maxDepth,mbz 9999 mb w]
theorem kjz (d:Nat) (w:World):(Op.equalIn (d+1) 71 (.map none) (.map none)).run Tryz.prog w=.ok true w:=by
 simp[Op.equalIn,run_underlying Tryz.underlying71]
theorem fpz (w:World):(binOp .eql 71 (.map none) (.map none)).run Tryz.prog w=.ok (.bool true) w:=by
 simp only[binOp]
 simp[Op.equal,Op.maxDepth,kjz 9999 w]
theorem fbz {F:Nat→Prop} {w:World} {gt:VB} {d s mb:Nat} {l:List OG} {T:List OB} {B U:List PI} {bl:PI→Nat} {dr:PI→Bool} (h:TSm F w gt l d T s mb B U bl dr):
  Calls Tryz.prog 118 #[.pointer (some ⟨gt.b,0,none⟩)] w λe w'=>e=.returned (.tuple #[])∧(∃T' s',TSm (ajz F w w') w' gt l l.length T' s' mb B U bl dr)∧Only F w w':=by
 have hlow:∀b,F b→b<w.heap.size:=by obtain⟨FO,kv,L,v,hS,_⟩:=h.out;exact hS.low
 have g0:w.cell? ⟨gt.b,0,none⟩=some (.map (some mb)):=by obtain⟨FO,kv,L,v,hS,_,hg,_⟩:=h.out;exact cellOf hg 0
 have HH:Hid (TSm (ajz F w w) w gt l d T s mb B U bl dr∧∀b,F b→b<w.heap.size):=⟨h.mono (λb hb=>.inl hb) (λb hb=>hb.elim (hlow b) λe=>e.2),hlow⟩
 have hE:=eYz mb w
 clear h hlow
 go_enter Tryz.func118,Tryz.ntmps118
 go_wp2_with fail
 go_loopw [11] (λ_ wr=>Hid (∃d T s,TSm (ajz F w wr) wr gt l d T s mb B U bl dr∧Only F w wr∧b6z gt.b wr=d)) (λ_ wr=>l.length-b6z gt.b wr)
 case atStart=>exact⟨d,T,s,HH.out.1,Only.refl _ _,by
  obtain⟨FO,kv,L,v,hS,_,hg,_⟩:=HH.out.1.out
  unfold b6z
  rw[cellOf hg 2]
  simp⟩
 case round=>
  clear g0 hE
  obtain⟨d,T,s,hT,hOw,hdw⟩:=hrel.out
  have hdl:=hT.dl
  obtain⟨FO,kv,L,v,hS,hL,hg,hD,hM⟩:=hT.out
  obtain⟨p,cp,rfl,hlc,hcm,hpp⟩:=hS.row.form
  have hlen:(L.map (·.sb)).length=l.length:=by rw[← hL,List.length_map,List.length_map]
  have hl8:l.length≤800:=by have:=hS.len;rw[← hL,List.length_map];exact this
  rw[hlen]at hg hlc hpp
  have g1:wr.cell? ⟨gt.b,1,none⟩=some (.slice p l.length cp):=cellOf hg 1
  have g2:wr.cell? ⟨gt.b,2,none⟩=some (.int .i64 (d:Nat)):=cellOf hg 2
  have HI:=a0z (agz hT (agz hOw hdw))
  clear hrel
  go_wp2_with fail
  refine gVz (by kernel_rfl) gt.b l.length cp d p _ rfl rfl g1 g2 ?_
  intro W hB
  simp only[abz,sA,sB,sC]
  have HB:=a0z hB
  by_cases hdd:d<l.length
  ·have hddI:decide ((d:Int)<(l.length:Int))=true:=decide_eq_true (by omega)
   rw[hddI]
   obtain⟨g9,rfl,hcell⟩:=hpp (by omega)
   obtain⟨e,he⟩:∃e,L[d]? =some e:=⟨_,List.getElem?_eq_getElem (by rw[← hL,List.length_map]at hdd;exact hdd)⟩
   have r0:wr.cell? ⟨g9,d,none⟩=some (.pointer (some ⟨e.sb,0,none⟩)):=hcell d e.sb (by rw[List.getElem?_map,he];rfl)
   obtain⟨T1,s1,hst⟩:=StepT.total T 0 e.o
   have hTW:=hT.below hB
   have hSW:=hS.kept (Below.only hB (λ_=>False)) (λb f=>f.elim) ⟨_,hg⟩
   have hMW:=hM.below hB
   have hgW:W.heap[gt.b]? =_:=(hB.block _ (block_lt hg)).trans hg
   have hFO:∀b,FO b→b<W.drew.heap.size:=λb hb=>hSW.low b (hSW.sub b hb)
   have hse:=hSW.stF e (List.mem_of_getElem? he)
   have hdrew:Below W.heap.size W W.drew:=⟨rfl,rfl,rfl,Nat.le_refl _,λ_ _=>rfl⟩
   have hrun:=jdz (w:=W.drew) (hMW.below hdrew) hFO (show W.drew.cell? ⟨gt.b,0,none⟩=some (.map (some mb))from cellOf hgW 0) (hSW.st e (List.mem_of_getElem? he)).drewr hse.2.1 hse.2.2.2 (hSW.ok_now hD he)
   have hrun':Calls Tryz.prog 159 #[.pointer (some ⟨e.sb,0,none⟩)] W.drew λx W'=>x=.returned (.bool (decide (s1=0)))∧Ran FO mb B U bl dr T e.o gt.b e.sb e.x W.drew W' (decide (s1=0)):=by
    refine hrun.mono ?_
    rintro x W' ⟨r,rfl,hR⟩
    obtain⟨T',fu,fn,hu,_⟩:=hR.out
    have:=((hu.1 0).unique hst).2
    have er:r=decide (s1=0):=by rw[← this];cases r<;>simp
    rw[← er]
    exact⟨rfl,hR⟩
   have c1:W.cell? ⟨gt.b,1,none⟩=some (.slice (some ⟨g9,0,none⟩) l.length cp):=cellOf hgW 1
   have c2:W.cell? ⟨gt.b,2,none⟩=some (.int .i64 (d:Nat)):=cellOf hgW 2
   have c3:W.cell? ⟨g9,d,none⟩=some (.pointer (some ⟨e.sb,0,none⟩)):=(hB.cell (p:=⟨g9,d,none⟩) (a4z r0)).trans r0
   have hsd:=hT.sd
   have HK:Hid (SM (ajz F w wr) FO W gt.b (.slice (some ⟨g9,0,none⟩) l.length cp) L U bl dr∧L.map (·.o)=l∧W.heap[gt.b]? =some (.cells #[.map (some mb),.slice (some ⟨g9,0,none⟩) l.length cp,.int .i64 (d:Nat),.int .i64 (s:Nat),gt.fv,gt.cn] 77 (0,0))∧DoneT bl U (L.take d) T s∧L[d]? =some e):=⟨by rw[hlen]at hSW;exact hSW,hL,hgW,hD,he⟩
   clear hT hS hg hD hM hlc hpp hcell r0 hTW hSW hMW hgW hFO hse hdrew hrun hlen hcm g1 g2 hB hst he
   go_wp2_with fail
   generalize hrr:decide (s1=0)=rr at hrun'
   refine hqz (by kernel_rfl) gt.b g9 l.length cp d e.sb rr (λW'=>Ran FO mb B U bl dr T e.o gt.b e.sb e.x W W' rr) _ rfl rfl hdd c1 c2 c3 (hrun'.mono λx W' hx=>⟨hx.1,⟨hx.2.out,⟨hx.2.only.os,hx.2.only.tape,hx.2.only.output,hx.2.only.size,hx.2.only.block⟩⟩⟩) ?_
   intro _ W3 hR
   have hg3:W3.heap[gt.b]? =some (.cells #[.map (some mb),.slice (some ⟨g9,0,none⟩) l.length cp,.int .i64 (d:Nat),.int .i64 (s:Nat),gt.fv,gt.cn] 77 (0,0)):=by
    have hse:=HK.out.1.st e (List.mem_of_getElem? HK.out.2.2.2.2)
    refine(hR.only.block _ (block_lt HK.out.2.2.1) (λhh=> ?_)).trans HK.out.2.2.1
    rcases hh with hh|hh|hh
    ·exact HK.out.1.gtF.2 hh
    ·exact aiz HK.out.2.2.1 hse.blk (by decide) hh
    ·exact aiz HK.out.2.2.1 (hse.mvat hh.2) (by decide) hh.1
   have k2:W3.cell? ⟨gt.b,2,none⟩=some (.int .i64 (d:Nat)):=cellOf hg3 2
   have k3:W3.cell? ⟨gt.b,3,none⟩=some (.int .i64 (s:Nat)):=cellOf hg3 3
   have f2:W3.frozen? ⟨gt.b,2,none⟩=false:=aez hg3 2
   have f3:W3.frozen? ⟨gt.b,3,none⟩=false:=aez hg3 3
   have fin:∀Wf,Only (· =gt.b) W3 Wf→Wf.heap[gt.b]? =some (.cells #[.map (some mb),.slice (some ⟨g9,0,none⟩) l.length cp,.int .i64 (d+1:Nat),.int .i64 ((if rr=true then s else s+1:Nat):Nat),gt.fv,gt.cn] 77 (0,0))→
     Hid (∃d T s,TSm (ajz F w Wf) Wf gt l d T s mb B U bl dr∧Only F w Wf∧b6z gt.b Wf=d)∧b6z gt.b Wf=d+1:=λWf hof hgf=>by
    obtain⟨⟨T',hT'⟩,hO'⟩:=hgz HK.out.1 HK.out.2.2.1 HK.out.2.2.2.1 HK.out.2.2.2.2 hR (by rw[HK.out.2.1];exact HI.out.1.uid) (by rw[HK.out.2.1];exact HI.out.1.ul) hof hgf
    rw[HK.out.2.1]at hT'
    have hdone:b6z gt.b Wf=d+1:=by unfold b6z;rw[cellOf hgf 2];simp
    have q1:=HI.out.2.1.size
    have q2:=HB.out.size
    have q3:=hR.only.size
    have q4:=hof.size
    have hOW:Only F w W:=HI.out.2.1.next (Below.only HB.out F)
    refine⟨⟨d+1,T',_,hT'.mono (λb hb=> ?_) (λb hb=> ?_), ?_,hdone⟩,hdone⟩
    ·rcases hb with(hb|hb)|hb
     ·exact .inl hb
     ·exact .inr ⟨hb.1,by omega⟩
     ·exact .inr ⟨by omega,hb.2⟩
    ·rcases hb with hb|hb
     ·have:=HH.out.2 b hb;omega
     ·exact hb.2
    ·refine hOW.trans hO' λi hi=> ?_
     rcases hi with hi|hi
     ·exact .inl hi
     ·exact .inr hi.1
   have HF:Hid (∀Wf,Only (· =gt.b) W3 Wf→Wf.heap[gt.b]? =some (.cells #[.map (some mb),.slice (some ⟨g9,0,none⟩) l.length cp,.int .i64 (d+1:Nat),.int .i64 ((if rr=true then s else s+1:Nat):Nat),gt.fv,gt.cn] 77 (0,0))→
     Hid (∃d T s,TSm (ajz F w Wf) Wf gt l d T s mb B U bl dr∧Only F w Wf∧b6z gt.b Wf=d)∧b6z gt.b Wf=d+1):=fin
   have HG:=a0z hg3
   clear fin hR hg3 HK hrun' c1 c2 c3
   simp only[abz,sA,sB,sC]
   have hdw:=HI.out.2.2
   cases rr with
   |true=>
    go_wp2_with fail
    go_roundw
    case rel=>
     refine(HF.out _ (Only.setCell (S:=(· =gt.b)) W3 ⟨gt.b,2,none⟩ _ rfl) ?_).1
     have:=a7z (k:=2) HG.out (.int .i64 ((d+1:Nat):Int))
     exact this
    case measure=>
     have:=(HF.out _ (Only.setCell (S:=(· =gt.b)) W3 ⟨gt.b,2,none⟩ (.int .i64 ((d:Int)+1)) rfl) (a7z (k:=2) HG.out (.int .i64 ((d+1:Nat):Int)))).2
     rw[this,hdw]
     omega
   |false=>
    have hne:¬(2:Nat)=3:=by decide
    go_wp2_with fail
    go_roundw
    case rel=>
     refine(HF.out _ ((Only.setCell (S:=(· =gt.b)) W3 ⟨gt.b,3,none⟩ _ rfl).next (Only.setCell (S:=(· =gt.b)) _ ⟨gt.b,2,none⟩ _ rfl)) ?_).1
     have:=a7z (k:=2) (a7z (k:=3) HG.out (.int .i64 ((s+1:Nat):Int))) (.int .i64 ((d+1:Nat):Int))
     exact this
    case measure=>
     have:=(HF.out _ ((Only.setCell (S:=(· =gt.b)) W3 ⟨gt.b,3,none⟩ (.int .i64 ((s:Int)+1)) rfl).next (Only.setCell (S:=(· =gt.b)) _ ⟨gt.b,2,none⟩ (.int .i64 ((d:Int)+1)) rfl)) (a7z (k:=2) (a7z (k:=3) HG.out (.int .i64 ((s+1:Nat):Int))) (.int .i64 ((d+1:Nat):Int)))).2
     rw[this,hdw]
     omega
  ·have hddI:decide ((d:Int)<(l.length:Int))=false:=decide_eq_false (by omega)
   rw[hddI]
   have hde:d=l.length:=by omega
   have HE:Hid ((∃T' s',TSm (ajz F w W) W gt l l.length T' s' mb B U bl dr)∧Only F w W):=by
    have q1:=HI.out.2.1.size
    have q2:=HB.out.size
    refine⟨⟨T,s, ?_⟩,HI.out.2.1.next (Below.only HB.out F)⟩
    rw[← hde]
    refine(HI.out.1.below HB.out).mono (λb hb=> ?_) λb hb=> ?_
    ·rcases hb with hb|hb
     ·exact .inl hb
     ·exact .inr ⟨hb.1,by omega⟩
    ·rcases hb with hb|hb
     ·have:=HH.out.2 b hb;omega
     ·exact hb.2
   clear hT hS hg hD hM hlc hpp hB g1 g2 hlen hcm
   go_wp2_with fail
   go_end0
   exact⟨rfl,HE.out⟩
end Go.Proofs.YthhakekbffembaaGreatDoor.Ck.Y
