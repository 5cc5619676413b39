import Derived.Test.YthhakekbffembaaGreatDoorKPi
set_option maxRecDepth 8000
set_option maxHeartbeats 4000000

namespace Go.Proofs.YthhakekbffembaaGreatDoor.Ck.Y
open Go.RowKit Go.Maps Go.Lib
variable {Q:Exit→Act→World→Prop} {base:Array Value} {dd:List Deferred} {ops:Array Oper}
theorem mMz (hops:Tryz.f107.body.bind (alz 1)=some ops) (mk gt mb:Nat) (t n:Int) (v:Value) (w9:World) (hsz:base.size=54) (b0:base.getD 0 undef=pO mk)
  (m0:w9.cell? ⟨mk,0,none⟩=some (pO gt)) (m2:w9.cell? ⟨mk,2,none⟩=some (iV t)) (m3:w9.cell? ⟨mk,3,none⟩=some (iV n)) (g0:w9.cell? ⟨gt,0,none⟩=some (.map (some mb))) (hl:∀W,Below w9.heap.size w9 W→(Instr.lookup 71 (.map (some mb)) (idv t n) false).run Tryz.prog W=.ok (v) W) (hQ:∀W,Below w9.heap.size w9 W→Q .normal ⟨abz base [(some 4,pO mk),(some 5,pO mk),(some 6,pO mk),(some 7,pO gt),(some 8,pO gt),(some 9,pO gt),(some 10,.map (some mb)),(some 11,pO mk),(some 12,pO mk),(some 13,.pointer (some ⟨mk,2,none⟩)),(some 14,.agg #[iV t,iV n]),(some 15,v),(some 3,v)],dd⟩ W):
  (Code.region 1 ops true).wp Tryz.prog Q ⟨base,dd⟩ w9:=by
 obtain rfl:=Option.some.inj ((show Tryz.f107.body.bind (alz 1)=some _ from rfl).symm.trans hops);clear hops
 refine rU (by kernel_rfl) 54 hsz (by kernel_rfl) rfl hQ λLL hLe b W Ii Oo a hS hcl ho hb hd ev kp yl=> ?_
 have vv5:aaz LL 5=pO gt:=vL hLe rfl
 have vv6:aaz LL 6=.map (some mb):=vL hLe rfl
 have vv10:aaz LL 10=.agg #[iV t,iV n]:=vL hLe rfl
 have vv11:aaz LL 11=v:=vL hLe rfl
 have Vv:=aV hLe;have Ee:=aE hLe rfl ev
 have e0:=(kp 0 (by kernel_rfl)).trans b0
 have d0:=(hS.cell (p:=⟨mk,0,none⟩) (a4z m0)).trans m0
 have d2:=(hS.cell (p:=⟨mk,2,none⟩) (a4z m2)).trans m2
 have d3:=(hS.cell (p:=⟨mk,3,none⟩) (a4z m3)).trans m3
 simp only[AV,AE,Nat.zero_add,Nat.reduceAdd,and_true]at Vv Ee
 match Ii with
 |0|1|2|3|4|5|7|8|9|10|12=>simp only[qq]at ho;subst ho;have hd:=aD hd;simp only[AD,and_true]at hd;simp only[Vv];exact dV (by simp[execOp,go_sem,Ee,d0,d2,d3,e0,hd]) hS
 |6=>simp only[qq]at ho;subst ho;have e9:=eD ev hd 5 9 vv5;have d0:=(hS.cell (p:=⟨gt,0,none⟩) (a4z g0)).trans g0;rw[vv6];exact dV (by simp[execOp,go_sem,e9,d0]) hS
 |11=>simp only[qq]at ho;subst ho;have e10:=eD ev hd 6 10 vv6;have e14:=eD ev hd 10 14 vv10;rw[vv11];exact dV (by simp[execOp,go_sem,e10,e14,hl W hS]) hS
 |k+13=>simp at ho
theorem mnz (hops:Tryz.f107.body.bind (alz 4)=some ops) (mk gt mb ob:Nat) (t n:Int) (WE:World) (w9:World) (hsz:base.size=54) (b0:base.getD 0 undef=pO mk)
  (m0:w9.cell? ⟨mk,0,none⟩=some (pO gt)) (m1:w9.cell? ⟨mk,1,none⟩=some (pO ob)) (g0:w9.cell? ⟨gt,0,none⟩=some (.map (some mb))) (o2:w9.cell? ⟨ob,2,none⟩=some (iV t)) (o3:w9.cell? ⟨ob,3,none⟩=some (iV n)) (hp:(Instr.mapUpdate 71 (.map (some mb)) (idv t n) (pO ob)).run Tryz.prog w9.drew=.ok () WE) (hQ:∀(g:Unit) (W:World),(W=WE)→Q .normal ⟨abz base ((λ_g:Unit=>([(some 25,pO mk),(some 26,pO mk),(some 27,pO mk),(some 28,pO gt),(some 29,pO gt),(some 30,pO gt),(some 31,.map (some mb)),(some 32,pO mk),(some 33,pO mk),(some 34,.pointer (some ⟨mk,1,none⟩)),(some 35,pO ob),(some 36,pO ob),(some 37,.pointer (some ⟨ob,2,none⟩)),(some 38,.agg #[iV t,iV n]),(some 39,pO mk),(some 40,pO mk),(some 41,.pointer (some ⟨mk,1,none⟩)),(some 42,pO ob),(none,undef)]:List (Option Tmp×Value))) g),dd⟩ W):
  (Code.region 4 ops true).wp Tryz.prog Q ⟨base,dd⟩ w9:=by
 have hmix:=hmx
 have h2:=(show Tryz.f107.body.bind (alz 4)=some _ from rfl).symm.trans hops
 obtain rfl:=Option.some.inj h2
 clear h2 hops
 obtain⟨LL,hLe⟩:=qG hQ
 have vv:=λg=>aV (congrFun hLe g)
 simp only[AV,Nat.zero_add,Nat.reduceAdd,and_true,forall_and]at vv
 obtain⟨vv0,vv1,vv2,vv3,vv4,vv5,vv6,vv7,vv8,vv9,vv10,vv11,vv12,vv13,vv14,vv15,vv16,vv17,vv18⟩:=vv
 refine axz hmix (by kernel_rfl) 54 hsz (by kernel_rfl) () LL (λg=>by rw[hLe];rfl) (λ(_g:Unit) (b:Nat→Bool) (W:World)=>if b 18=true then(W=WE)else(W=w9.drew)) ?_ ?_ ?_
 ·simp only[Bool.false_eq_true,if_false]
 ·intro g b W io Oo a hS hcl ho hb hd ev kp yl
  have q18_6:b 18=true→b 6=true:=qH hcl 18 6 id
  have q18_5:b 18=true→b 5=true:=qH hcl 6 5 q18_6
  have q18_4:b 18=true→b 4=true:=qH hcl 5 4 q18_5
  have q18_3:b 18=true→b 3=true:=qH hcl 4 3 q18_4
  have q18_13:b 18=true→b 13=true:=qH hcl 18 13 id
  have q18_12:b 18=true→b 12=true:=qH hcl 13 12 q18_13
  have q18_11:b 18=true→b 11=true:=qH hcl 12 11 q18_12
  have q18_10:b 18=true→b 10=true:=qH hcl 11 10 q18_11
  have q18_17:b 18=true→b 17=true:=qH hcl 18 17 id
  have Vv:=aV (congrFun hLe g);have Ee:=aE (congrFun hLe g) rfl ev
  have e0:=(kp 0 (aqz (by kernel_rfl))).trans b0
  simp only[AV,AE,Nat.zero_add,Nat.reduceAdd,and_true]at Vv Ee
  match io with
  |0|1|2|4|5|7|8|9|11|12|14|15|16=>simp only[qq]at ho;subst ho;have hd:=aD hd;simp only[AD,and_true]at hd;refine a9z rfl nofun ?_ ⟨g,λ_ _=>rfl,rfl,by simpa[did]using hS⟩;simp only[Vv];simp[execOp,go_sem,Ee,e0,hd]
  |3=>
   simp only[qq]at ho;subst ho;have e27:=eD ev hd 2 27 (vv2 g);have n18:=nF q18_3 hb;have hW:W=w9.drew:=by simpa[n18]using hS
   have hl:W.cell? ⟨mk,0,none⟩=some (pO gt):=by rw[hW];exact m0
   refine a9z rfl nofun (v:=pO gt) (w':=W) ?_ ⟨g,λ_ _=>rfl,(vv3 g).symm,by simpa[did]using hS⟩
   ·simp[execOp,go_sem,e27,hl]
  |6=>
   simp only[qq]at ho;subst ho;have e30:=eD ev hd 5 30 (vv5 g);have n18:=nF q18_6 hb;have hW:W=w9.drew:=by simpa[n18]using hS
   have hl:W.cell? ⟨gt,0,none⟩=some (.map (some mb)):=by rw[hW];exact g0
   refine a9z rfl nofun (v:=.map (some mb)) (w':=W) ?_ ⟨g,λ_ _=>rfl,(vv6 g).symm,by simpa[did]using hS⟩
   ·simp[execOp,go_sem,e30,hl]
  |10=>
   simp only[qq]at ho;subst ho;have e34:=eD ev hd 9 34 (vv9 g);have n18:=nF q18_10 hb;have hW:W=w9.drew:=by simpa[n18]using hS
   have hl:W.cell? ⟨mk,1,none⟩=some (pO ob):=by rw[hW];exact m1
   refine a9z rfl nofun (v:=pO ob) (w':=W) ?_ ⟨g,λ_ _=>rfl,(vv10 g).symm,by simpa[did]using hS⟩
   ·simp[execOp,go_sem,e34,hl]
  |13=>
   simp only[qq]at ho;subst ho;have e37:=eD ev hd 12 37 (vv12 g);have n18:=nF q18_13 hb;have hW:W=w9.drew:=by simpa[n18]using hS
   have hl:W.cell? ⟨ob,2,none⟩=some (iV t):=by rw[hW];exact o2
   have hl2:W.cell? ⟨ob,3,none⟩=some (iV n):=by rw[hW];exact o3
   refine a9z rfl nofun (v:=.agg #[iV t,iV n]) (w':=W) ?_ ⟨g,λ_ _=>rfl,(vv13 g).symm,by simpa[did]using hS⟩
   ·simp[execOp,go_sem,e37,hl,hl2]
  |17=>
   simp only[qq]at ho;subst ho;have e41:=eD ev hd 16 41 (vv16 g);have n18:=nF q18_17 hb;have hW:W=w9.drew:=by simpa[n18]using hS
   have hl:W.cell? ⟨mk,1,none⟩=some (pO ob):=by rw[hW];exact m1
   refine a9z rfl nofun (v:=pO ob) (w':=W) ?_ ⟨g,λ_ _=>rfl,(vv17 g).symm,by simpa[did]using hS⟩
   ·simp[execOp,go_sem,e41,hl]
  |18=>
   simp only[qq]at ho;subst ho;have e31:=eD ev hd 6 31 (vv6 g);have e38:=eD ev hd 13 38 (vv13 g);have e42:=eD ev hd 17 42 (vv17 g);have hS9:W=w9.drew:=by simpa[hb]using hS
   obtain⟨W',hr,hP⟩:=(⟨WE,hp,rfl⟩:∃W',(Instr.mapUpdate 71 (.map (some mb)) (idv t n) (pO ob)).run Tryz.prog w9.drew=.ok () W'∧W'=WE)
   refine blz rfl nofun (w':=W') ?_ ⟨g,λ_ _=>rfl,(vv18 _).symm, ?_⟩
   ·rw[hS9];simp[execOp,go_sem,e31,e38,e42,hr]
   ·simpa[did]using hP
  |k+19=>simp at ho
 ·intro g b W hS hall
  have hl9:b 18=true:=hall 18 (by decide)
  subst hLe
  exact hQ g W (by simpa[hl9]using hS)
theorem nvz (hops:Tryz.f107.body.bind (alz 5)=some ops) (mk ob u:Nat) (nm:ByteArray) (Post:World→Prop) (w9:World) (hsz:base.size=54) (b0:base.getD 0 undef=pO mk) (b3:base.getD 3 undef=pO u)
  (m1:w9.cell? ⟨mk,1,none⟩=some (pO ob)) (m4:w9.cell? ⟨mk,4,none⟩=some (.string nm)) (hc:Calls Tryz.prog 150 #[pO ob,.agg #[pO u,.string nm]] w9.drew λe W'=>e=.returned (.tuple #[])∧Post W') (hQ:∀(g:Unit) (W:World),(Post W)→Q .normal ⟨abz base ((λ_g:Unit=>([(some 43,pO mk),(some 44,pO mk),(some 45,.pointer (some ⟨mk,1,none⟩)),(some 46,pO ob),(some 47,pO u),(some 48,pO mk),(some 49,pO mk),(some 50,.pointer (some ⟨mk,4,none⟩)),(some 51,.string nm),(some 52,.agg #[pO u,.string nm]),(some 53,.tuple #[])]:List (Option Tmp×Value))) g),dd⟩ W):
  (Code.region 5 ops true).wp Tryz.prog Q ⟨base,dd⟩ w9:=by
 have hmix:=hmx
 have h2:=(show Tryz.f107.body.bind (alz 5)=some _ from rfl).symm.trans hops
 obtain rfl:=Option.some.inj h2
 clear h2 hops
 have cK:∀(g:Unit) (W:World),W=w9.drew→Calls Tryz.prog 150 #[pO ob,.agg #[pO u,.string nm]] W λe W'=>∃x:Unit,e=.returned (.tuple #[])∧Post W':=λg W hW=>by
  rw[hW]
  exact hc.mono λe W' h=>⟨(),h.1,h.2⟩
 obtain⟨LL,hLe⟩:=qG hQ
 have vv:=λg=>aV (congrFun hLe g)
 simp only[AV,Nat.zero_add,Nat.reduceAdd,and_true,forall_and]at vv
 obtain⟨vv0,vv1,vv2,vv3,vv4,vv5,vv6,vv7,vv8,vv9,vv10⟩:=vv
 refine axz hmix (by kernel_rfl) 54 hsz (by kernel_rfl) () LL (λg=>by rw[hLe];rfl) (λ(_g:Unit) (b:Nat→Bool) (W:World)=>if b 10=true then(Post W)else(W=w9.drew)) ?_ ?_ ?_
 ·simp only[Bool.false_eq_true,if_false]
 ·intro g b W io Oo a hS hcl ho hb hd ev kp yl
  have q10_3:b 10=true→b 3=true:=qH hcl 10 3 id
  have q10_9:b 10=true→b 9=true:=qH hcl 10 9 id
  have q10_8:b 10=true→b 8=true:=qH hcl 9 8 q10_9
  have Vv:=aV (congrFun hLe g);have Ee:=aE (congrFun hLe g) rfl ev
  have e0:=(kp 0 (aqz (by kernel_rfl))).trans b0
  have e3:=(kp 3 (aqz (by kernel_rfl))).trans b3
  simp only[AV,AE,Nat.zero_add,Nat.reduceAdd,and_true]at Vv Ee
  match io with
  |0|1|2|4|5|6|7|9=>simp only[qq]at ho;subst ho;have hd:=aD hd;simp only[AD,and_true]at hd;refine a9z rfl nofun ?_ ⟨g,λ_ _=>rfl,rfl,by simpa[did]using hS⟩;simp only[Vv];simp[execOp,go_sem,Ee,e0,e3,hd]
  |3=>
   simp only[qq]at ho;subst ho;have e45:=eD ev hd 2 45 (vv2 g);have n10:=nF q10_3 hb;have hW:W=w9.drew:=by simpa[n10]using hS
   have hl:W.cell? ⟨mk,1,none⟩=some (pO ob):=by rw[hW];exact m1
   refine a9z rfl nofun (v:=pO ob) (w':=W) ?_ ⟨g,λ_ _=>rfl,(vv3 g).symm,by simpa[did]using hS⟩
   ·simp[execOp,go_sem,e45,hl]
  |8=>
   simp only[qq]at ho;subst ho;have e50:=eD ev hd 7 50 (vv7 g);have n10:=nF q10_8 hb;have hW:W=w9.drew:=by simpa[n10]using hS
   have hl:W.cell? ⟨mk,4,none⟩=some (.string nm):=by rw[hW];exact m4
   refine a9z rfl nofun (v:=.string nm) (w':=W) ?_ ⟨g,λ_ _=>rfl,(vv8 g).symm,by simpa[did]using hS⟩
   ·simp[execOp,go_sem,e50,hl]
  |10=>
   simp only[qq]at ho;subst ho;have e46:=eD ev hd 3 46 (vv3 g);have e52:=eD ev hd 9 52 (vv9 g);have hS9:W=w9.drew:=by simpa[hb]using hS
   refine aLz rfl nofun (f:=150) (args:= #[pO ob,.agg #[pO u,.string nm]]) ?_ ?_
   ·simp[go_sem,e46,e52]
   ·refine(cK g W hS9).mono ?_
    rintro e W' ⟨x,rfl,hP⟩
    refine⟨_,rfl,g, ?_,(vv10 g).symm, ?_⟩
    ·exact λ_ _=>rfl
    ·simpa[did]using hP
  |k+11=>simp at ho
 ·intro g b W hS hall
  have hl9:b 10=true:=hall 10 (by decide)
  subst hLe
  exact hQ g W (by simpa[hl9]using hS)
theorem niz (hops:Tryz.f108.body.bind (alz 1)=some ops) (mk gt mb ob:Nat) (t n:Int) (WE:World) (w9:World) (hsz:base.size=22) (b0:base.getD 0 undef=pO mk)
  (m0:w9.cell? ⟨mk,0,none⟩=some (pO gt)) (m1:w9.cell? ⟨mk,1,none⟩=some (pO ob)) (g0:w9.cell? ⟨gt,0,none⟩=some (.map (some mb))) (o2:w9.cell? ⟨ob,2,none⟩=some (iV t)) (o3:w9.cell? ⟨ob,3,none⟩=some (iV n)) (hp:∀ty,(Builtin.delete_ #[71,28] ty #[.map (some mb),idv t n]).run Tryz.prog w9.drew=.ok (.tuple #[]) WE) (hQ:∀(g:Unit) (W:World),(W=WE)→Q .normal ⟨abz base ((λ_g:Unit=>([(some 8,pO mk),(some 9,pO mk),(some 10,pO mk),(some 11,pO gt),(some 12,pO gt),(some 13,pO gt),(some 14,.map (some mb)),(some 15,pO mk),(some 16,pO mk),(some 17,.pointer (some ⟨mk,1,none⟩)),(some 18,pO ob),(some 19,pO ob),(some 20,.pointer (some ⟨ob,2,none⟩)),(some 21,.agg #[iV t,iV n]),(none,.tuple #[])]:List (Option Tmp×Value))) g),dd⟩ W):
  (Code.region 1 ops true).wp Tryz.prog Q ⟨base,dd⟩ w9:=by
 have hmix:=hmx
 have h2:=(show Tryz.f108.body.bind (alz 1)=some _ from rfl).symm.trans hops
 obtain rfl:=Option.some.inj h2
 clear h2 hops
 obtain⟨LL,hLe⟩:=qG hQ
 have vv:=λg=>aV (congrFun hLe g)
 simp only[AV,Nat.zero_add,Nat.reduceAdd,and_true,forall_and]at vv
 obtain⟨vv0,vv1,vv2,vv3,vv4,vv5,vv6,vv7,vv8,vv9,vv10,vv11,vv12,vv13,vv14⟩:=vv
 refine axz hmix (by kernel_rfl) 22 hsz (by kernel_rfl) () LL (λg=>by rw[hLe];rfl) (λ(_g:Unit) (b:Nat→Bool) (W:World)=>if b 14=true then(W=WE)else(W=w9.drew)) ?_ ?_ ?_
 ·simp only[Bool.false_eq_true,if_false]
 ·intro g b W io Oo a hS hcl ho hb hd ev kp yl
  have q14_6:b 14=true→b 6=true:=qH hcl 14 6 id
  have q14_5:b 14=true→b 5=true:=qH hcl 6 5 q14_6
  have q14_4:b 14=true→b 4=true:=qH hcl 5 4 q14_5
  have q14_3:b 14=true→b 3=true:=qH hcl 4 3 q14_4
  have q14_13:b 14=true→b 13=true:=qH hcl 14 13 id
  have q14_12:b 14=true→b 12=true:=qH hcl 13 12 q14_13
  have q14_11:b 14=true→b 11=true:=qH hcl 12 11 q14_12
  have q14_10:b 14=true→b 10=true:=qH hcl 11 10 q14_11
  have Vv:=aV (congrFun hLe g);have Ee:=aE (congrFun hLe g) rfl ev
  have e0:=(kp 0 (aqz (by kernel_rfl))).trans b0
  simp only[AV,AE,Nat.zero_add,Nat.reduceAdd,and_true]at Vv Ee
  match io with
  |0|1|2|4|5|7|8|9|11|12=>simp only[qq]at ho;subst ho;have hd:=aD hd;simp only[AD,and_true]at hd;refine a9z rfl nofun ?_ ⟨g,λ_ _=>rfl,rfl,by simpa[did]using hS⟩;simp only[Vv];simp[execOp,go_sem,Ee,e0,hd]
  |3=>
   simp only[qq]at ho;subst ho;have e10:=eD ev hd 2 10 (vv2 g);have n14:=nF q14_3 hb;have hW:W=w9.drew:=by simpa[n14]using hS
   have hl:W.cell? ⟨mk,0,none⟩=some (pO gt):=by rw[hW];exact m0
   refine a9z rfl nofun (v:=pO gt) (w':=W) ?_ ⟨g,λ_ _=>rfl,(vv3 g).symm,by simpa[did]using hS⟩
   ·simp[execOp,go_sem,e10,hl]
  |6=>
   simp only[qq]at ho;subst ho;have e13:=eD ev hd 5 13 (vv5 g);have n14:=nF q14_6 hb;have hW:W=w9.drew:=by simpa[n14]using hS
   have hl:W.cell? ⟨gt,0,none⟩=some (.map (some mb)):=by rw[hW];exact g0
   refine a9z rfl nofun (v:=.map (some mb)) (w':=W) ?_ ⟨g,λ_ _=>rfl,(vv6 g).symm,by simpa[did]using hS⟩
   ·simp[execOp,go_sem,e13,hl]
  |10=>
   simp only[qq]at ho;subst ho;have e17:=eD ev hd 9 17 (vv9 g);have n14:=nF q14_10 hb;have hW:W=w9.drew:=by simpa[n14]using hS
   have hl:W.cell? ⟨mk,1,none⟩=some (pO ob):=by rw[hW];exact m1
   refine a9z rfl nofun (v:=pO ob) (w':=W) ?_ ⟨g,λ_ _=>rfl,(vv10 g).symm,by simpa[did]using hS⟩
   ·simp[execOp,go_sem,e17,hl]
  |13=>
   simp only[qq]at ho;subst ho;have e20:=eD ev hd 12 20 (vv12 g);have n14:=nF q14_13 hb;have hW:W=w9.drew:=by simpa[n14]using hS
   have hl:W.cell? ⟨ob,2,none⟩=some (iV t):=by rw[hW];exact o2
   have hl2:W.cell? ⟨ob,3,none⟩=some (iV n):=by rw[hW];exact o3
   refine a9z rfl nofun (v:=.agg #[iV t,iV n]) (w':=W) ?_ ⟨g,λ_ _=>rfl,(vv13 g).symm,by simpa[did]using hS⟩
   ·simp[execOp,go_sem,e20,hl,hl2]
  |14=>
   simp only[qq]at ho;subst ho;have e14:=eD ev hd 6 14 (vv6 g);have e21:=eD ev hd 13 21 (vv13 g);have hS9:W=w9.drew:=by simpa[hb]using hS
   obtain⟨W',hr,hP⟩:=(⟨WE,hp,rfl⟩:∃W',(∀ty,(Builtin.delete_ #[71,28] ty #[.map (some mb),idv t n]).run Tryz.prog w9.drew=.ok (.tuple #[]) W')∧W'=WE)
   refine a9z rfl nofun (v:=.tuple #[]) (w':=W') ?_ ⟨g, ?_,(vv14 _).symm, ?_⟩
   ·rw[hS9];simp[go_sem,e14,e21,hr]
   ·exact λ_ _=>rfl
   ·simpa[did]using hP
  |k+15=>simp at ho
 ·intro g b W hS hall
  have hl9:b 14=true:=hall 14 (by decide)
  subst hLe
  exact hQ g W (by simpa[hl9]using hS)
theorem mLz (hops:Tryz.f109.body.bind (alz 1)=some ops) (mv gt mb:Nat) (t n t2 n2:Int) (v v2:Value) (w9:World) (hsz:base.size=67) (b0:base.getD 0 undef=pO mv)
  (m0:w9.cell? ⟨mv,0,none⟩=some (pO gt)) (m1:w9.cell? ⟨mv,1,none⟩=some (iV t)) (m2:w9.cell? ⟨mv,2,none⟩=some (iV n)) (m3:w9.cell? ⟨mv,3,none⟩=some (iV t2)) (m4:w9.cell? ⟨mv,4,none⟩=some (iV n2)) (g0:w9.cell? ⟨gt,0,none⟩=some (.map (some mb))) (hl:∀W,Below w9.heap.size w9 W→(Instr.lookup 71 (.map (some mb)) (idv t n) false).run Tryz.prog W=.ok (v) W) (hl2:∀W,Below w9.heap.size w9 W→(Instr.lookup 71 (.map (some mb)) (idv t2 n2) false).run Tryz.prog W=.ok (v2) W) (hQ:∀W,Below w9.heap.size w9 W→Q .normal ⟨abz base [(some 5,pO mv),(some 6,pO mv),(some 7,pO mv),(some 8,pO gt),(some 9,pO gt),(some 10,pO gt),(some 11,.map (some mb)),(some 12,pO mv),(some 13,pO mv),(some 14,.pointer (some ⟨mv,1,none⟩)),(some 15,.agg #[iV t,iV n]),(some 16,v),(some 17,pO mv),(some 18,pO mv),(some 19,pO mv),(some 20,pO gt),(some 21,pO gt),(some 22,pO gt),(some 23,.map (some mb)),(some 24,pO mv),(some 25,pO mv),(some 26,.pointer (some ⟨mv,3,none⟩)),(some 27,.agg #[iV t2,iV n2]),(some 28,v2),(some 3,v),(some 4,v2)],dd⟩ W):
  (Code.region 1 ops true).wp Tryz.prog Q ⟨base,dd⟩ w9:=by
 obtain rfl:=Option.some.inj ((show Tryz.f109.body.bind (alz 1)=some _ from rfl).symm.trans hops);clear hops
 refine rU (by kernel_rfl) 67 hsz (by kernel_rfl) rfl hQ λLL hLe b W Ii Oo a hS hcl ho hb hd ev kp yl=> ?_
 have vv5:aaz LL 5=pO gt:=vL hLe rfl
 have vv6:aaz LL 6=.map (some mb):=vL hLe rfl
 have vv10:aaz LL 10=.agg #[iV t,iV n]:=vL hLe rfl
 have vv11:aaz LL 11=v:=vL hLe rfl
 have vv17:aaz LL 17=pO gt:=vL hLe rfl
 have vv18:aaz LL 18=.map (some mb):=vL hLe rfl
 have vv22:aaz LL 22=.agg #[iV t2,iV n2]:=vL hLe rfl
 have vv23:aaz LL 23=v2:=vL hLe rfl
 have Vv:=aV hLe;have Ee:=aE hLe rfl ev
 have e0:=(kp 0 (by kernel_rfl)).trans b0
 have d0:=(hS.cell (p:=⟨mv,0,none⟩) (a4z m0)).trans m0
 have d1:=(hS.cell (p:=⟨mv,1,none⟩) (a4z m1)).trans m1
 have d2:=(hS.cell (p:=⟨mv,2,none⟩) (a4z m2)).trans m2
 have d3:=(hS.cell (p:=⟨mv,3,none⟩) (a4z m3)).trans m3
 have d4:=(hS.cell (p:=⟨mv,4,none⟩) (a4z m4)).trans m4
 simp only[AV,AE,Nat.zero_add,Nat.reduceAdd,and_true]at Vv Ee
 match Ii with
 |0|1|2|3|4|5|7|8|9|10|12|13|14|15|16|17|19|20|21|22|24|25=>simp only[qq]at ho;subst ho;have hd:=aD hd;simp only[AD,and_true]at hd;simp only[Vv];exact dV (by simp[execOp,go_sem,Ee,d0,d1,d2,d3,d4,e0,hd]) hS
 |6=>simp only[qq]at ho;subst ho;have e10:=eD ev hd 5 10 vv5;have d0:=(hS.cell (p:=⟨gt,0,none⟩) (a4z g0)).trans g0;rw[vv6];exact dV (by simp[execOp,go_sem,e10,d0]) hS
 |11=>simp only[qq]at ho;subst ho;have e11:=eD ev hd 6 11 vv6;have e15:=eD ev hd 10 15 vv10;rw[vv11];exact dV (by simp[execOp,go_sem,e11,e15,hl W hS]) hS
 |18=>simp only[qq]at ho;subst ho;have e22:=eD ev hd 17 22 vv17;have d0:=(hS.cell (p:=⟨gt,0,none⟩) (a4z g0)).trans g0;rw[vv18];exact dV (by simp[execOp,go_sem,e22,d0]) hS
 |23=>simp only[qq]at ho;subst ho;have e23:=eD ev hd 18 23 vv18;have e27:=eD ev hd 22 27 vv22;rw[vv23];exact dV (by simp[execOp,go_sem,e23,e27,hl2 W hS]) hS
 |k+26=>simp at ho
theorem mSz (hops:Tryz.f110.body.bind (alz 0)=some ops) (mv gt mb ob:Nat) (t n:Int) (fu:Value) (fn:ByteArray) (Post:World→Prop) (w9:World) (hsz:base.size=23) (b0:base.getD 0 undef=pO mv)
  (m0:w9.cell? ⟨mv,0,none⟩=some (pO gt)) (m1:w9.cell? ⟨mv,1,none⟩=some (iV t)) (m2:w9.cell? ⟨mv,2,none⟩=some (iV n)) (m6:w9.cell? ⟨mv,6,none⟩=some (fu)) (m7:w9.cell? ⟨mv,7,none⟩=some (.string fn)) (g0:w9.cell? ⟨gt,0,none⟩=some (.map (some mb))) (hlk:(Instr.lookup 71 (.map (some mb)) (idv t n) false).run Tryz.prog w9.drew=.ok (pO ob) w9.drew) (hc:Calls Tryz.prog 150 #[pO ob,.agg #[fu,.string fn]] w9.drew λe W'=>e=.returned (.tuple #[])∧Post W') (hQ:∀(g:Unit) (W:World),(Post W)→Q .normal ⟨abz base ((λ_g:Unit=>([(some 2,pO mv),(some 3,pO mv),(some 4,pO mv),(some 5,pO gt),(some 6,pO gt),(some 7,pO gt),(some 8,.map (some mb)),(some 9,pO mv),(some 10,pO mv),(some 11,.pointer (some ⟨mv,1,none⟩)),(some 12,.agg #[iV t,iV n]),(some 13,pO ob),(some 14,pO mv),(some 15,pO mv),(some 16,.pointer (some ⟨mv,6,none⟩)),(some 17,.agg #[fu,.string fn]),(some 18,.tuple #[])]:List (Option Tmp×Value))) g),dd⟩ W):
  (Code.region 0 ops true).wp Tryz.prog Q ⟨base,dd⟩ w9:=by
 have hmix:=hmx
 have h2:=(show Tryz.f110.body.bind (alz 0)=some _ from rfl).symm.trans hops
 obtain rfl:=Option.some.inj h2
 clear h2 hops
 have cK:∀(g:Unit) (W:World),W=w9.drew→Calls Tryz.prog 150 #[pO ob,.agg #[fu,.string fn]] W λe W'=>∃x:Unit,e=.returned (.tuple #[])∧Post W':=λg W hW=>by
  rw[hW]
  exact hc.mono λe W' h=>⟨(),h.1,h.2⟩
 obtain⟨LL,hLe⟩:=qG hQ
 have vv:=λg=>aV (congrFun hLe g)
 simp only[AV,Nat.zero_add,Nat.reduceAdd,and_true,forall_and]at vv
 obtain⟨vv0,vv1,vv2,vv3,vv4,vv5,vv6,vv7,vv8,vv9,vv10,vv11,vv12,vv13,vv14,vv15,vv16⟩:=vv
 refine axz hmix (by kernel_rfl) 23 hsz (by kernel_rfl) () LL (λg=>by rw[hLe];rfl) (λ(_g:Unit) (b:Nat→Bool) (W:World)=>if b 16=true then(Post W)else(W=w9.drew)) ?_ ?_ ?_
 ·simp only[Bool.false_eq_true,if_false]
 ·intro g b W io Oo a hS hcl ho hb hd ev kp yl
  have q16_11:b 16=true→b 11=true:=qH hcl 16 11 id
  have q16_6:b 16=true→b 6=true:=qH hcl 11 6 q16_11
  have q16_5:b 16=true→b 5=true:=qH hcl 6 5 q16_6
  have q16_4:b 16=true→b 4=true:=qH hcl 5 4 q16_5
  have q16_3:b 16=true→b 3=true:=qH hcl 4 3 q16_4
  have q16_10:b 16=true→b 10=true:=qH hcl 11 10 q16_11
  have q16_15:b 16=true→b 15=true:=qH hcl 16 15 id
  have Vv:=aV (congrFun hLe g);have Ee:=aE (congrFun hLe g) rfl ev
  have e0:=(kp 0 (aqz (by kernel_rfl))).trans b0
  simp only[AV,AE,Nat.zero_add,Nat.reduceAdd,and_true]at Vv Ee
  match io with
  |0|1|2|4|5|7|8|9|12|13|14=>simp only[qq]at ho;subst ho;have hd:=aD hd;simp only[AD,and_true]at hd;refine a9z rfl nofun ?_ ⟨g,λ_ _=>rfl,rfl,by simpa[did]using hS⟩;simp only[Vv];simp[execOp,go_sem,Ee,e0,hd]
  |3=>
   simp only[qq]at ho;subst ho;have e4:=eD ev hd 2 4 (vv2 g);have n16:=nF q16_3 hb;have hW:W=w9.drew:=by simpa[n16]using hS
   have hl:W.cell? ⟨mv,0,none⟩=some (pO gt):=by rw[hW];exact m0
   refine a9z rfl nofun (v:=pO gt) (w':=W) ?_ ⟨g,λ_ _=>rfl,(vv3 g).symm,by simpa[did]using hS⟩
   ·simp[execOp,go_sem,e4,hl]
  |6=>
   simp only[qq]at ho;subst ho;have e7:=eD ev hd 5 7 (vv5 g);have n16:=nF q16_6 hb;have hW:W=w9.drew:=by simpa[n16]using hS
   have hl:W.cell? ⟨gt,0,none⟩=some (.map (some mb)):=by rw[hW];exact g0
   refine a9z rfl nofun (v:=.map (some mb)) (w':=W) ?_ ⟨g,λ_ _=>rfl,(vv6 g).symm,by simpa[did]using hS⟩
   ·simp[execOp,go_sem,e7,hl]
  |10=>
   simp only[qq]at ho;subst ho;have e11:=eD ev hd 9 11 (vv9 g);have n16:=nF q16_10 hb;have hW:W=w9.drew:=by simpa[n16]using hS
   have hl:W.cell? ⟨mv,1,none⟩=some (iV t):=by rw[hW];exact m1
   have hl2:W.cell? ⟨mv,2,none⟩=some (iV n):=by rw[hW];exact m2
   refine a9z rfl nofun (v:=.agg #[iV t,iV n]) (w':=W) ?_ ⟨g,λ_ _=>rfl,(vv10 g).symm,by simpa[did]using hS⟩
   ·simp[execOp,go_sem,e11,hl,hl2]
  |11=>
   simp only[qq]at ho;subst ho;have e8:=eD ev hd 6 8 (vv6 g);have e12:=eD ev hd 10 12 (vv10 g);have n16:=nF q16_11 hb
   refine a9z rfl nofun (v:=pO ob) (w':=W) ?_ ⟨g,λ_ _=>rfl,(vv11 g).symm,by simpa[did]using hS⟩
   ·(rw[show W=w9.drew from by simpa[n16]using hS];simp[execOp,go_sem,e8,e12,hlk])
  |15=>
   simp only[qq]at ho;subst ho;have e16:=eD ev hd 14 16 (vv14 g);have n16:=nF q16_15 hb;have hW:W=w9.drew:=by simpa[n16]using hS
   have hl:W.cell? ⟨mv,6,none⟩=some (fu):=by rw[hW];exact m6
   have hl2:W.cell? ⟨mv,7,none⟩=some (.string fn):=by rw[hW];exact m7
   refine a9z rfl nofun (v:=.agg #[fu,.string fn]) (w':=W) ?_ ⟨g,λ_ _=>rfl,(vv15 g).symm,by simpa[did]using hS⟩
   ·simp[execOp,go_sem,e16,hl,hl2]
  |16=>
   simp only[qq]at ho;subst ho;have e13:=eD ev hd 11 13 (vv11 g);have e17:=eD ev hd 15 17 (vv15 g);have hS9:W=w9.drew:=by simpa[hb]using hS
   refine aLz rfl nofun (f:=150) (args:= #[pO ob,.agg #[fu,.string fn]]) ?_ ?_
   ·simp[go_sem,e13,e17]
   ·refine(cK g W hS9).mono ?_
    rintro e W' ⟨x,rfl,hP⟩
    refine⟨_,rfl,g, ?_,(vv16 g).symm, ?_⟩
    ·exact λ_ _=>rfl
    ·simpa[did]using hP
  |k+17=>simp at ho
 ·intro g b W hS hall
  have hl9:b 16=true:=hall 16 (by decide)
  subst hLe
  exact hQ g W (by simpa[hl9]using hS)
theorem nsz (hops:Tryz.f70.body.bind (alz 2)=some ops) (gt g9 len cp k sb:Nat) (rb:Bool) (Post:World→Prop) (w9:World) (hsz:base.size=36) (b0:base.getD 0 undef=pO gt) (hk:k<len)
  (g1:w9.cell? ⟨gt,1,none⟩=some (.slice (some ⟨g9,0,none⟩) len cp)) (g2:w9.cell? ⟨gt,2,none⟩=some (iV (k:Nat))) (r0:w9.cell? ⟨g9,k,none⟩=some (pO sb)) (hc:Calls Tryz.prog 103 #[pO sb] w9.drew λe W'=>e=.returned (.bool rb)∧Post W') (hQ:∀(g:Unit) (W:World),(Post W)→Q .normal ⟨abz base ((λ_g:Unit=>([(some 17,pO gt),(some 18,pO gt),(some 19,.pointer (some ⟨gt,1,none⟩)),(some 20,.slice (some ⟨g9,0,none⟩) len cp),(some 21,pO gt),(some 22,pO gt),(some 23,.pointer (some ⟨gt,2,none⟩)),(some 24,iV (k:Nat)),(some 25,.pointer (some ⟨g9,k,none⟩)),(some 26,pO sb),(some 27,.bool rb),(some 28,.bool (!rb))]:List (Option Tmp×Value))) g),dd⟩ W):
  (Code.region 2 ops true).wp Tryz.prog Q ⟨base,dd⟩ w9:=by
 have hmix:=hmx
 have h2:=(show Tryz.f70.body.bind (alz 2)=some _ from rfl).symm.trans hops
 obtain rfl:=Option.some.inj h2
 clear h2 hops
 have cK:∀(g:Unit) (W:World),W=w9.drew→Calls Tryz.prog 103 #[pO sb] W λe W'=>∃x:Unit,e=.returned (.bool rb)∧Post W':=λg W hW=>by
  rw[hW]
  exact hc.mono λe W' h=>⟨(),h.1,h.2⟩
 obtain⟨LL,hLe⟩:=qG hQ
 have vv:=λg=>aV (congrFun hLe g)
 simp only[AV,Nat.zero_add,Nat.reduceAdd,and_true,forall_and]at vv
 obtain⟨vv0,vv1,vv2,vv3,vv4,vv5,vv6,vv7,vv8,vv9,vv10,vv11⟩:=vv
 refine axz hmix (by kernel_rfl) 36 hsz (by kernel_rfl) () LL (λg=>by rw[hLe];rfl) (λ(_g:Unit) (b:Nat→Bool) (W:World)=>if b 10=true then(Post W)else(W=w9.drew)) ?_ ?_ ?_
 ·simp only[Bool.false_eq_true,if_false]
 ·intro g b W io Oo a hS hcl ho hb hd ev kp yl
  have q10_9:b 10=true→b 9=true:=qH hcl 10 9 id
  have q10_8:b 10=true→b 8=true:=qH hcl 9 8 q10_9
  have q10_3:b 10=true→b 3=true:=qH hcl 8 3 q10_8
  have q10_7:b 10=true→b 7=true:=qH hcl 8 7 q10_8
  have Vv:=aV (congrFun hLe g);have Ee:=aE (congrFun hLe g) rfl ev
  have e0:=(kp 0 (aqz (by kernel_rfl))).trans b0
  simp only[AV,AE,Nat.zero_add,Nat.reduceAdd,and_true]at Vv Ee
  match io with
  |0|1|2|4|5|6|8|11=>simp only[qq]at ho;subst ho;have hd:=aD hd;simp only[AD,and_true]at hd;refine a9z rfl nofun ?_ ⟨g,λ_ _=>rfl,rfl,by simpa[did]using hS⟩;simp only[Vv];simp[execOp,go_sem,Ee,e0,hd,hk]
  |3=>
   simp only[qq]at ho;subst ho;have e19:=eD ev hd 2 19 (vv2 g);have n10:=nF q10_3 hb;have hW:W=w9.drew:=by simpa[n10]using hS
   have hl:W.cell? ⟨gt,1,none⟩=some (.slice (some ⟨g9,0,none⟩) len cp):=by rw[hW];exact g1
   refine a9z rfl nofun (v:=.slice (some ⟨g9,0,none⟩) len cp) (w':=W) ?_ ⟨g,λ_ _=>rfl,(vv3 g).symm,by simpa[did]using hS⟩
   ·simp[execOp,go_sem,e19,hl]
  |7=>
   simp only[qq]at ho;subst ho;have e23:=eD ev hd 6 23 (vv6 g);have n10:=nF q10_7 hb;have hW:W=w9.drew:=by simpa[n10]using hS
   have hl:W.cell? ⟨gt,2,none⟩=some (iV (k:Nat)):=by rw[hW];exact g2
   refine a9z rfl nofun (v:=iV (k:Nat)) (w':=W) ?_ ⟨g,λ_ _=>rfl,(vv7 g).symm,by simpa[did]using hS⟩
   ·simp[execOp,go_sem,e23,hl]
  |9=>
   simp only[qq]at ho;subst ho;have e25:=eD ev hd 8 25 (vv8 g);have n10:=nF q10_9 hb;have hW:W=w9.drew:=by simpa[n10]using hS
   have hl:W.cell? ⟨g9,k,none⟩=some (pO sb):=by rw[hW];exact r0
   refine a9z rfl nofun (v:=pO sb) (w':=W) ?_ ⟨g,λ_ _=>rfl,(vv9 g).symm,by simpa[did]using hS⟩
   ·simp[execOp,go_sem,e25,hl]
  |10=>
   simp only[qq]at ho;subst ho;have e26:=eD ev hd 9 26 (vv9 g);have hS9:W=w9.drew:=by simpa[hb]using hS
   refine aLz rfl nofun (f:=103) (args:= #[pO sb]) ?_ ?_
   ·simp[go_sem,e26]
   ·refine(cK g W hS9).mono ?_
    rintro e W' ⟨x,rfl,hP⟩
    refine⟨_,rfl,g, ?_,(vv10 g).symm, ?_⟩
    ·exact λ_ _=>rfl
    ·simpa[did]using hP
  |k+12=>simp at ho
 ·intro g b W hS hall
  have hl9:b 10=true:=hall 10 (by decide)
  subst hLe
  exact hQ g W (by simpa[hl9]using hS)
theorem hqz (hops:Tryz.f118.body.bind (alz 3)=some ops) (gt g9 len cp k sb:Nat) (rb:Bool) (Post:World→Prop) (w9:World) (hsz:base.size=47) (b0:base.getD 0 undef=pO gt) (hk:k<len)
  (g1:w9.cell? ⟨gt,1,none⟩=some (.slice (some ⟨g9,0,none⟩) len cp)) (g2:w9.cell? ⟨gt,2,none⟩=some (iV (k:Nat))) (r0:w9.cell? ⟨g9,k,none⟩=some (pO sb)) (hc:Calls Tryz.prog 159 #[pO sb] w9.drew λe W'=>e=.returned (.bool rb)∧Post W') (hQ:∀(g:Unit) (W:World),(Post W)→Q .normal ⟨abz base ((λ_g:Unit=>([(some 21,pO gt),(some 22,pO gt),(some 23,.pointer (some ⟨gt,1,none⟩)),(some 24,.slice (some ⟨g9,0,none⟩) len cp),(some 25,pO gt),(some 26,pO gt),(some 27,.pointer (some ⟨gt,2,none⟩)),(some 28,iV (k:Nat)),(some 29,.pointer (some ⟨g9,k,none⟩)),(some 30,pO sb),(some 31,.bool rb),(some 32,.bool (!rb))]:List (Option Tmp×Value))) g),dd⟩ W):
  (Code.region 3 ops true).wp Tryz.prog Q ⟨base,dd⟩ w9:=by
 have hmix:=hmx
 have h2:=(show Tryz.f118.body.bind (alz 3)=some _ from rfl).symm.trans hops
 obtain rfl:=Option.some.inj h2
 clear h2 hops
 have cK:∀(g:Unit) (W:World),W=w9.drew→Calls Tryz.prog 159 #[pO sb] W λe W'=>∃x:Unit,e=.returned (.bool rb)∧Post W':=λg W hW=>by
  rw[hW]
  exact hc.mono λe W' h=>⟨(),h.1,h.2⟩
 obtain⟨LL,hLe⟩:=qG hQ
 have vv:=λg=>aV (congrFun hLe g)
 simp only[AV,Nat.zero_add,Nat.reduceAdd,and_true,forall_and]at vv
 obtain⟨vv0,vv1,vv2,vv3,vv4,vv5,vv6,vv7,vv8,vv9,vv10,vv11⟩:=vv
 refine axz hmix (by kernel_rfl) 47 hsz (by kernel_rfl) () LL (λg=>by rw[hLe];rfl) (λ(_g:Unit) (b:Nat→Bool) (W:World)=>if b 10=true then(Post W)else(W=w9.drew)) ?_ ?_ ?_
 ·simp only[Bool.false_eq_true,if_false]
 ·intro g b W io Oo a hS hcl ho hb hd ev kp yl
  have q10_9:b 10=true→b 9=true:=qH hcl 10 9 id
  have q10_8:b 10=true→b 8=true:=qH hcl 9 8 q10_9
  have q10_3:b 10=true→b 3=true:=qH hcl 8 3 q10_8
  have q10_7:b 10=true→b 7=true:=qH hcl 8 7 q10_8
  have Vv:=aV (congrFun hLe g);have Ee:=aE (congrFun hLe g) rfl ev
  have e0:=(kp 0 (aqz (by kernel_rfl))).trans b0
  simp only[AV,AE,Nat.zero_add,Nat.reduceAdd,and_true]at Vv Ee
  match io with
  |0|1|2|4|5|6|8|11=>simp only[qq]at ho;subst ho;have hd:=aD hd;simp only[AD,and_true]at hd;refine a9z rfl nofun ?_ ⟨g,λ_ _=>rfl,rfl,by simpa[did]using hS⟩;simp only[Vv];simp[execOp,go_sem,Ee,e0,hd,hk]
  |3=>
   simp only[qq]at ho;subst ho;have e23:=eD ev hd 2 23 (vv2 g);have n10:=nF q10_3 hb;have hW:W=w9.drew:=by simpa[n10]using hS
   have hl:W.cell? ⟨gt,1,none⟩=some (.slice (some ⟨g9,0,none⟩) len cp):=by rw[hW];exact g1
   refine a9z rfl nofun (v:=.slice (some ⟨g9,0,none⟩) len cp) (w':=W) ?_ ⟨g,λ_ _=>rfl,(vv3 g).symm,by simpa[did]using hS⟩
   ·simp[execOp,go_sem,e23,hl]
  |7=>
   simp only[qq]at ho;subst ho;have e27:=eD ev hd 6 27 (vv6 g);have n10:=nF q10_7 hb;have hW:W=w9.drew:=by simpa[n10]using hS
   have hl:W.cell? ⟨gt,2,none⟩=some (iV (k:Nat)):=by rw[hW];exact g2
   refine a9z rfl nofun (v:=iV (k:Nat)) (w':=W) ?_ ⟨g,λ_ _=>rfl,(vv7 g).symm,by simpa[did]using hS⟩
   ·simp[execOp,go_sem,e27,hl]
  |9=>
   simp only[qq]at ho;subst ho;have e29:=eD ev hd 8 29 (vv8 g);have n10:=nF q10_9 hb;have hW:W=w9.drew:=by simpa[n10]using hS
   have hl:W.cell? ⟨g9,k,none⟩=some (pO sb):=by rw[hW];exact r0
   refine a9z rfl nofun (v:=pO sb) (w':=W) ?_ ⟨g,λ_ _=>rfl,(vv9 g).symm,by simpa[did]using hS⟩
   ·simp[execOp,go_sem,e29,hl]
  |10=>
   simp only[qq]at ho;subst ho;have e30:=eD ev hd 9 30 (vv9 g);have hS9:W=w9.drew:=by simpa[hb]using hS
   refine aLz rfl nofun (f:=159) (args:= #[pO sb]) ?_ ?_
   ·simp[go_sem,e30]
   ·refine(cK g W hS9).mono ?_
    rintro e W' ⟨x,rfl,hP⟩
    refine⟨_,rfl,g, ?_,(vv10 g).symm, ?_⟩
    ·exact λ_ _=>rfl
    ·simpa[did]using hP
  |k+12=>simp at ho
 ·intro g b W hS hall
  have hl9:b 10=true:=hall 10 (by decide)
  subst hLe
  exact hQ g W (by simpa[hl9]using hS)
theorem gVz (hops:Tryz.f118.body.bind (alz 2)=some ops) (gt len cp k:Nat) (p:Option Addr) (w9:World) (hsz:base.size=47) (b0:base.getD 0 undef=pO gt)
  (g1:w9.cell? ⟨gt,1,none⟩=some (.slice p len cp)) (g2:w9.cell? ⟨gt,2,none⟩=some (iV (k:Nat))) (hQ:∀W,Below w9.heap.size w9 W→Q .normal ⟨abz base [(some 11,pO gt),(some 12,pO gt),(some 13,.pointer (some ⟨gt,2,none⟩)),(some 14,iV (k:Nat)),(some 15,pO gt),(some 16,pO gt),(some 17,.pointer (some ⟨gt,1,none⟩)),(some 18,.slice p len cp),(some 19,iV (len:Nat)),(some 20,.bool (decide ((k:Int)<(len:Int))))],dd⟩ W):
  (Code.region 2 ops true).wp Tryz.prog Q ⟨base,dd⟩ w9:=by
 obtain rfl:=Option.some.inj ((show Tryz.f118.body.bind (alz 2)=some _ from rfl).symm.trans hops);clear hops
 refine rU (by kernel_rfl) 47 hsz (by kernel_rfl) rfl hQ λLL hLe b W Ii Oo a hS hcl ho hb hd ev kp yl=> ?_
 have vv7:aaz LL 7=.slice p len cp:=vL hLe rfl
 have vv8:aaz LL 8=iV (len:Nat):=vL hLe rfl
 have Vv:=aV hLe;have Ee:=aE hLe rfl ev
 have e0:=(kp 0 (by kernel_rfl)).trans b0
 have d2:=(hS.cell (p:=⟨gt,2,none⟩) (a4z g2)).trans g2
 have d1:=(hS.cell (p:=⟨gt,1,none⟩) (a4z g1)).trans g1
 simp only[AV,AE,Nat.zero_add,Nat.reduceAdd,and_true]at Vv Ee
 match Ii with
 |0|1|2|3|4|5|6|7|9=>simp only[qq]at ho;subst ho;have hd:=aD hd;simp only[AD,and_true]at hd;simp only[Vv];exact dV (by simp[execOp,go_sem,Ee,d1,d2,e0,hd]) hS
 |8=>simp only[qq]at ho;subst ho;have e18:=eD ev hd 7 18 vv7;rw[vv8];exact dV (by simp[go_sem,e18]) hS
 |k+10=>simp at ho
theorem jaz (hops:Tryz.f81.body.bind (alz 4)=some ops) (gt bx mb:Nat) (t n:Int) (v:Value) (w9:World) (hsz:base.size=15) (b0:base.getD 0 undef=pO gt) (b3:base.getD 3 undef=pO bx)
  (g0:w9.cell? ⟨gt,0,none⟩=some (.map (some mb))) (x0:w9.cell? ⟨bx,0,none⟩=some (iV t)) (x1:w9.cell? ⟨bx,1,none⟩=some (iV n)) (hl:∀W,Below w9.heap.size w9 W→(Instr.lookup 71 (.map (some mb)) (idv t n) false).run Tryz.prog W=.ok (v) W) (hQ:∀W,Below w9.heap.size w9 W→Q .normal ⟨abz base [(some 9,pO gt),(some 10,pO gt),(some 11,pO gt),(some 12,.map (some mb)),(some 13,.agg #[iV t,iV n]),(some 14,v),(some 4,v)],dd⟩ W):
  (Code.region 4 ops true).wp Tryz.prog Q ⟨base,dd⟩ w9:=by
 obtain rfl:=Option.some.inj ((show Tryz.f81.body.bind (alz 4)=some _ from rfl).symm.trans hops);clear hops
 refine rU (by kernel_rfl) 15 hsz (by kernel_rfl) rfl hQ λLL hLe b W Ii Oo a hS hcl ho hb hd ev kp yl=> ?_
 have vv3:aaz LL 3=.map (some mb):=vL hLe rfl
 have vv4:aaz LL 4=.agg #[iV t,iV n]:=vL hLe rfl
 have vv5:aaz LL 5=v:=vL hLe rfl
 have Vv:=aV hLe;have Ee:=aE hLe rfl ev
 have e0:=(kp 0 (by kernel_rfl)).trans b0
 have d0:=(hS.cell (p:=⟨gt,0,none⟩) (a4z g0)).trans g0
 simp only[AV,AE,Nat.zero_add,Nat.reduceAdd,and_true]at Vv Ee
 match Ii with
 |0|1|2|3|6=>simp only[qq]at ho;subst ho;have hd:=aD hd;simp only[AD,and_true]at hd;simp only[Vv];exact dV (by simp[execOp,go_sem,Ee,d0,e0,hd]) hS
 |4=>simp only[qq]at ho;subst ho;have e3:=(kp 3 (by kernel_rfl)).trans b3;have d0:=(hS.cell (p:=⟨bx,0,none⟩) (a4z x0)).trans x0;have d1:=(hS.cell (p:=⟨bx,1,none⟩) (a4z x1)).trans x1;rw[vv4];exact dV (by simp[execOp,go_sem,e3,d0,d1]) hS
 |5=>simp only[qq]at ho;subst ho;have e12:=eD ev hd 3 12 vv3;have e13:=eD ev hd 4 13 vv4;rw[vv5];exact dV (by simp[execOp,go_sem,e12,e13,hl W hS]) hS
 |k+7=>simp at ho
theorem lSz (hops:Tryz.f27.body.bind (alz 3)=some ops) (gt bx len cp i0:Nat) (r0:Bool) (p:Option Addr) (t n:Int) (w9:World) (hsz:base.size=51) (b0:base.getD 0 undef=pO gt) (b3:base.getD 3 undef=pO bx)
  (g1:w9.cell? ⟨gt,1,none⟩=some (.slice p len cp)) (x0:w9.cell? ⟨bx,0,none⟩=some (iV t)) (x1:w9.cell? ⟨bx,1,none⟩=some (iV n)) (cK:∀W,Below w9.heap.size w9 W→Calls Tryz.prog 68 #[.slice p len cp,idv t n,.func (.func 69) #[] #[]] W λe w'=>e=.returned (.tuple #[iV (i0:Nat),.bool r0])∧Below W.heap.size W w') (hQ:∀W,Below w9.heap.size w9 W→Q .normal ⟨abz base [(some 17,pO gt),(some 18,pO gt),(some 19,.pointer (some ⟨gt,1,none⟩)),(some 20,.slice p len cp),(some 21,pO bx),(some 22,.agg #[iV t,iV n]),(some 23,.tuple #[iV (i0:Nat),.bool r0]),(some 16,.tuple #[iV (i0:Nat),.bool r0]),(some 24,iV (i0:Nat)),(some 25,.bool r0),(some 6,iV (i0:Nat)),(some 7,.bool r0)],dd⟩ W):
  (Code.region 3 ops true).wp Tryz.prog Q ⟨base,dd⟩ w9:=by
 obtain rfl:=Option.some.inj ((show Tryz.f27.body.bind (alz 3)=some _ from rfl).symm.trans hops);clear hops
 refine rU (by kernel_rfl) 51 hsz (by kernel_rfl) rfl hQ λLL hLe b W Ii Oo a hS hcl ho hb hd ev kp yl=> ?_
 have vv3:aaz LL 3=.slice p len cp:=vL hLe rfl
 have vv4:aaz LL 4=pO bx:=vL hLe rfl
 have vv5:aaz LL 5=.agg #[iV t,iV n]:=vL hLe rfl
 have vv6:aaz LL 6=.tuple #[iV (i0:Nat),.bool r0]:=vL hLe rfl
 have Vv:=aV hLe;have Ee:=aE hLe rfl ev
 have e0:=(kp 0 (by kernel_rfl)).trans b0
 have e3:=(kp 3 (by kernel_rfl)).trans b3
 have d1:=(hS.cell (p:=⟨gt,1,none⟩) (a4z g1)).trans g1
 simp only[AV,AE,Nat.zero_add,Nat.reduceAdd,and_true]at Vv Ee
 match Ii with
 |0|1|2|3|4|7|8|9|10|11=>simp only[qq]at ho;subst ho;have hd:=aD hd;simp only[AD,and_true]at hd;simp only[Vv];exact dV (by simp[execOp,go_sem,Ee,d1,e0,e3,hd]) hS
 |5=>simp only[qq]at ho;subst ho;have e21:=eD ev hd 4 21 vv4;have d0:=(hS.cell (p:=⟨bx,0,none⟩) (a4z x0)).trans x0;have d1:=(hS.cell (p:=⟨bx,1,none⟩) (a4z x1)).trans x1;rw[vv5];exact dV (by simp[execOp,go_sem,e21,d0,d1]) hS
 |6=>
  simp only[qq]at ho;subst ho;have e20:=eD ev hd 3 20 vv3;have e22:=eD ev hd 5 22 vv5;rw[vv6]
  refine ayz rfl nofun (f:=68) (args:= #[.slice p len cp,.agg #[iV t,iV n],.func (.func 69) #[] #[]]) ?_ ?_
  ·simp[go_sem,e20,e22]
  ·exact(cK W hS).mono (λe w' h=>⟨h.1,hS.trans (h.2.mono hS.size)⟩)
 |k+12=>simp at ho
end Go.Proofs.YthhakekbffembaaGreatDoor.Ck.Y
