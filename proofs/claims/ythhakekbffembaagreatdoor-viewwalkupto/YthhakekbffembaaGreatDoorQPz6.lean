import Derived.Test.YthhakekbffembaaGreatDoorQPs6
set_option maxRecDepth 8000
set_option maxHeartbeats 4000000

namespace Go.Proofs.YthhakekbffembaaGreatDoor.Ck.Y
open Go.RowKit Go.Maps Go.Lib
variable {Q:Exit→Act→World→Prop} {base:Array Value} {dd:List Deferred} {ops:Array Oper}
theorem lOz (hops:Tryz.f41.body.bind (alz 1)=some ops) (vt:Value) (bx_ by_:Nat) (t n t2 n2:Int) (P1:Value→World→Prop) (P2:Value→Value→World→Prop) (w9:World) (hsz:base.size=26) (b0:base.getD 0 undef=vt) (b4:base.getD 4 undef=pO bx_) (b5:base.getD 5 undef=pO by_)
  (x0:w9.cell? ⟨bx_,0,none⟩=some (iV t)) (x1:w9.cell? ⟨bx_,1,none⟩=some (iV n)) (y0:w9.cell? ⟨by_,0,none⟩=some (iV t2)) (y1:w9.cell? ⟨by_,1,none⟩=some (iV n2)) (hc1:Calls Tryz.prog 81 #[vt,idv t n] w9.drew λe W'=>∃x,e=.returned x∧P1 x W') (hk:∀x W,P1 x W→W.cell? ⟨by_,0,none⟩=some (iV t2)∧W.cell? ⟨by_,1,none⟩=some (iV n2)) (hc2:∀x W,P1 x W→Calls Tryz.prog 81 #[vt,idv t2 n2] W λe W'=>∃y,e=.returned y∧P2 x y W') (hQ:∀(g:Value×Value) (W:World),(P2 g.1 g.2 W)→Q .normal ⟨abz base ((λg:Value×Value=>([(some 9,vt),(some 10,.agg #[iV t,iV n]),(some 11,g.1),(some 12,vt),(some 13,.agg #[iV t2,iV n2]),(some 14,g.2),(some 7,g.1),(some 8,g.2)]:List (Option Tmp×Value))) g),dd⟩ W):
  (Code.region 1 ops true).wp Tryz.prog Q ⟨base,dd⟩ w9:=by
 have hmix:=hmx
 have h2:=(show Tryz.f41.body.bind (alz 1)=some _ from rfl).symm.trans hops
 obtain rfl:=Option.some.inj h2
 clear h2 hops
 have cK:∀(g:Value×Value) (W:World),W=w9.drew→Calls Tryz.prog 81 #[vt,idv t n] W λe W'=>∃x,e=.returned x∧P1 x W':=λg W hW=>by rw[hW];exact hc1
 have cK2:∀(g:Value×Value) (W:World),P1 g.1 W→Calls Tryz.prog 81 #[vt,idv t2 n2] W λe W'=>∃y,e=.returned y∧P2 g.1 y W':=λg W hW=>hc2 _ _ hW
 obtain⟨LL,hLe⟩:=qG hQ
 have vv:=λg=>aV (congrFun hLe g)
 simp only[AV,Nat.zero_add,Nat.reduceAdd,and_true,forall_and]at vv
 obtain⟨vv0,vv1,vv2,vv3,vv4,vv5,vv6,vv7⟩:=vv
 refine axz hmix (by kernel_rfl) 26 hsz (by kernel_rfl) (undef,undef) LL (λg=>by rw[hLe];rfl) (λ(g:Value×Value) (b:Nat→Bool) (W:World)=>if b 5=true then(P2 g.1 g.2 W)else if b 2=true then(P1 g.1 W)else(W=w9.drew)) ?_ ?_ ?_
 ·simp only[Bool.false_eq_true,if_false]
 ·intro g b W io Oo a hS hcl ho hb hd ev kp yl
  have q5_2:b 5=true→b 2=true:=qH hcl 5 2 id
  have q2_1:b 2=true→b 1=true:=qH hcl 2 1 id
  have q5_1:b 5=true→b 1=true:=qH hcl 2 1 q5_2
  have q5_4:b 5=true→b 4=true:=qH hcl 5 4 id
  have ch0:b 5=true→b 2=true:=λh=>hcl 5 _ rfl h ⟨2,.chain⟩ (by simp) rfl
  have Vv:=aV (congrFun hLe g);have Ee:=aE (congrFun hLe g) rfl ev
  have e0:=(kp 0 (aqz (by kernel_rfl))).trans b0
  simp only[AV,AE,Nat.zero_add,Nat.reduceAdd,and_true]at Vv Ee
  match io with
  |0|3|6|7=>simp only[qq]at ho;subst ho;have hd:=aD hd;simp only[AD,and_true]at hd;refine a9z rfl nofun ?_ ⟨g,λ_ _=>rfl,rfl,by simpa[did]using hS⟩;simp only[Vv];simp[execOp,go_sem,Ee,e0,hd]
  |1=>
   simp only[qq]at ho;subst ho;have e4:=(kp 4 (aqz (by kernel_rfl))).trans b4;have n2:=nF q2_1 hb;have n5:=nF q5_1 hb;have hW:W=w9.drew:=by simpa[n2,n5]using hS
   have hl:W.cell? ⟨bx_,0,none⟩=some (iV t):=by rw[hW];exact x0
   have hl2:W.cell? ⟨bx_,1,none⟩=some (iV n):=by rw[hW];exact x1
   refine a9z rfl nofun (v:=.agg #[iV t,iV n]) (w':=W) ?_ ⟨g,λ_ _=>rfl,(vv1 g).symm,by simpa[did]using hS⟩
   ·simp[execOp,go_sem,e4,hl,hl2]
  |2=>
   simp only[qq]at ho;subst ho;have e9:=eD ev hd 0 9 (vv0 g);have e10:=eD ev hd 1 10 (vv1 g);have n5:=nF q5_2 hb;have hS9:W=w9.drew:=by simpa[n5,hb]using hS
   refine Doesg.call 81 (#[vt,idv t n]) (by unfold Region.wanted;rfl) nofun ?_ ?_
   ·simp[go_sem,e9,e10]
   ·refine(cK g W hS9).mono ?_
    rintro e W' ⟨x,rfl,hP⟩
    refine⟨_,rfl,(x,g.2), ?_,(vv2 (x,g.2)).symm, ?_⟩
    ·intro j hj
     match j,hj with
     |2,h=>exact absurd (h.symm.trans hb) (by decide)
     |6,h=>exact absurd ((hcl 6 _ rfl (h) ⟨2,.data⟩ (by simp) rfl).symm.trans hb) (by decide)
     |j+8,_=>subst hLe;rfl
     |0,_|1,_|3,_|4,_|5,_|7,_=>subst hLe;rfl
    ·simpa[did,n5]using hP
  |4=>
   simp only[qq]at ho;subst ho;have e5:=(kp 5 (aqz (by kernel_rfl))).trans b5;have n5:=nF q5_4 hb
   have hl:W.cell? ⟨by_,0,none⟩=some (iV t2)∧W.cell? ⟨by_,1,none⟩=some (iV n2):=by
    have hS2:if b 2=true then(P1 g.1 W)else W=w9.drew:=by simpa[n5]using hS
    split at hS2
    ·exact hk _ _ hS2
    ·rw[hS2];exact⟨y0,y1⟩
   refine a9z rfl nofun (v:=.agg #[iV t2,iV n2]) (w':=W) ?_ ⟨g,λ_ _=>rfl,(vv4 g).symm,by simpa[did]using hS⟩
   ·simp[execOp,go_sem,e5,hl.1,hl.2]
  |5=>
   simp only[qq]at ho;subst ho;have e12:=eD ev hd 3 12 (vv3 g);have e13:=eD ev hd 4 13 (vv4 g);have hS9:P1 g.1 W:=by simpa[hb,(hd ⟨2,.chain⟩ (by simp) rfl)]using hS
   refine Doesg.call 81 (#[vt,idv t2 n2]) (by unfold Region.wanted;rfl) nofun ?_ ?_
   ·simp[go_sem,e12,e13]
   ·refine(cK2 g W hS9).mono ?_
    rintro e W' ⟨x,rfl,hP⟩
    refine⟨_,rfl,(g.1,x), ?_,(vv5 (g.1,x)).symm, ?_⟩
    ·intro j hj
     match j,hj with
     |5,h=>exact absurd (h.symm.trans hb) (by decide)
     |7,h=>exact absurd ((hcl 7 _ rfl (h) ⟨5,.data⟩ (by simp) rfl).symm.trans hb) (by decide)
     |j+8,_=>subst hLe;rfl
     |0,_|1,_|2,_|3,_|4,_|6,_=>subst hLe;rfl
    ·simpa[did]using hP
  |k+8=>simp at ho
 ·intro g b W hS hall
  have hl9:b 5=true:=hall 5 (by decide)
  subst hLe
  exact hQ g W (by simpa[hl9]using hS)
theorem ltz (hops:Tryz.f57.body.bind (alz 1)=some ops) (gt bx:Nat) (w9:World) (hsz:base.size=18) (b0:base.getD 0 undef=pO gt) (b3:base.getD 3 undef=pO bx)
  (x0:w9.cell? ⟨bx,0,none⟩=some (iV 0)) (x1:w9.cell? ⟨bx,1,none⟩=some (iV 0)) (cK:∀W,Below w9.heap.size w9 W→Calls Tryz.prog 42 #[] W λe w'=>e=.returned (.agg #[iV 0,iV 0])∧Below W.heap.size W w') (hQ:∀W,Below w9.heap.size w9 W→Q .normal ⟨abz base [(some 5,.agg #[iV 0,iV 0]),(some 6,.agg #[iV 0,iV 0]),(some 7,.bool true),(some 8,.bool true),(some 9,pO gt),(some 10,.bool true),(some 11,.bool true),(some 12,.bool true),(some 13,undef),(some 14,undef),(some 15,undef),(some 16,undef),(some 17,.bool true),(some 4,.bool true)],dd⟩ W):
  (Code.region 1 ops true).wp Tryz.prog Q ⟨base,dd⟩ w9:=by
 obtain rfl:=Option.some.inj ((show Tryz.f57.body.bind (alz 1)=some _ from rfl).symm.trans hops);clear hops
 refine rU (by kernel_rfl) 18 hsz (by kernel_rfl) rfl hQ λLL hLe b W Ii Oo a hS hcl ho hb hd ev kp yl=> ?_
 have vv0:aaz LL 0=.agg #[iV 0,iV 0]:=vL hLe rfl
 have vv1:aaz LL 1=.agg #[iV 0,iV 0]:=vL hLe rfl
 have vv2:aaz LL 2=.bool true:=vL hLe rfl
 have vv7:aaz LL 7=.bool true:=vL hLe rfl
 have Vv:=aV hLe;have Ee:=aE hLe rfl ev
 have e3:=(kp 3 (by kernel_rfl)).trans b3
 have e0:=(kp 0 (by kernel_rfl)).trans b0
 have d0:=(hS.cell (p:=⟨bx,0,none⟩) (a4z x0)).trans x0
 have d1:=(hS.cell (p:=⟨bx,1,none⟩) (a4z x1)).trans x1
 simp only[AV,AE,Nat.zero_add,Nat.reduceAdd,and_true]at Vv Ee
 match Ii with
 |0|3|6|7|12|13=>simp only[qq]at ho;subst ho;have hd:=aD hd;simp only[AD,and_true]at hd;simp only[Vv];exact dV (by simp[execOp,go_sem,Ee,d0,d1,e3,hd]) hS
 |4|5=>simp only[qq]at ho;subst ho;have hy:=yl 3 8 true rfl (hG hd 3) (by simp only[Vv]);have hd:=aD hd;simp only[AD,and_true]at hd;simp only[Vv];exact dG hy (by simp[execOp,go_sem,Ee,e0,hd]) hS
 |1=>
  simp only[qq]at ho;subst ho;rw[vv1]
  refine ayz rfl nofun (f:=42) (args:= #[]) ?_ ?_
  ·simp[go_sem,]
  ·exact(cK W hS).mono (λe w' h=>⟨h.1,hS.trans (h.2.mono hS.size)⟩)
 |2=>simp only[qq]at ho;subst ho;have e5:=eD ev hd 0 5 vv0;have e6:=eD ev hd 1 6 vv1;rw[vv2];exact dV (by (simp[execOp,go_sem,e5,e6,binOp,cOz (0,0) (0,0)])) hS
 |8|9|10|11=>simp only[qq]at ho;subst ho;exact a1z rfl (yl 7 12 true rfl (hG hd 7) vv7) (by decide) (vL hLe rfl) (hS)
 |k+14=>simp at ho
theorem mFz (hops:Tryz.f57.body.bind (alz 1)=some ops) (vt:Value) (bx:Nat) (t n:Int) (rb:Bool) (Post:World→Prop) (w9:World) (hsz:base.size=18) (b0:base.getD 0 undef=vt) (b3:base.getD 3 undef=pO bx) (hne:¬(t=0∧n=0))
  (x0:w9.cell? ⟨bx,0,none⟩=some (iV t)) (x1:w9.cell? ⟨bx,1,none⟩=some (iV n)) (cR:∀W,Calls Tryz.prog 42 #[] W λe W'=>e=.returned (.agg #[iV 0,iV 0])∧Below W.heap.size W W') (hc1:∀W,Below w9.heap.size w9 W→Calls Tryz.prog 41 #[vt,idv t n,idv 0 0] W λe W'=>e=.returned (.bool rb)∧Post W') (hQ:∀(g:Unit) (W:World),(Post W)→Q .normal ⟨abz base ((λ_g:Unit=>([(some 5,.agg #[iV t,iV n]),(some 6,.agg #[iV 0,iV 0]),(some 7,.bool false),(some 8,.bool false),(some 9,undef),(some 10,undef),(some 11,.bool false),(some 12,.bool false),(some 13,vt),(some 14,.agg #[iV t,iV n]),(some 15,.agg #[iV 0,iV 0]),(some 16,.bool rb),(some 17,.bool rb),(some 4,.bool rb)]:List (Option Tmp×Value))) g),dd⟩ W):
  (Code.region 1 ops true).wp Tryz.prog Q ⟨base,dd⟩ w9:=by
 have hmix:=hmx
 have h2:=(show Tryz.f57.body.bind (alz 1)=some _ from rfl).symm.trans hops
 obtain rfl:=Option.some.inj h2
 clear h2 hops
 have heq:(decide (t=0)&&decide (n=0))=false:=by
  by_cases h:t=0
  ·have:¬n=0:=λe=>hne ⟨h,e⟩
   simp[this]
  ·simp[h]
 have cK:∀(g:Unit) (W:World),Below w9.heap.size w9 W→Calls Tryz.prog 41 #[vt,idv t n,idv 0 0] W λe W'=>∃x:Unit,e=.returned (.bool rb)∧Post W':=λg W hW=>(hc1 W hW).mono λe W' h=>⟨(),h.1,h.2⟩
 obtain⟨LL,hLe⟩:=qG hQ
 have vv:=λg=>aV (congrFun hLe g)
 simp only[AV,Nat.zero_add,Nat.reduceAdd,and_true,forall_and]at vv
 obtain⟨vv0,vv1,vv2,vv3,vv4,vv5,vv6,vv7,vv8,vv9,vv10,vv11,vv12,vv13⟩:=vv
 refine axz hmix (by kernel_rfl) 18 hsz (by kernel_rfl) () LL (λg=>by rw[hLe];rfl) (λ(_g:Unit) (b:Nat→Bool) (W:World)=>if b 11=true then(Post W)else(Below w9.heap.size w9 W)) ?_ ?_ ?_
 ·simp only[Bool.false_eq_true,if_false]
  exact(Below.refl _ _).drew
 ·intro g b W io Oo a hS hcl ho hb hd ev kp yl
  have q11_8:b 11=true→b 8=true:=qH hcl 11 8 id
  have q11_7:b 11=true→b 7=true:=qH hcl 8 7 q11_8
  have q11_6:b 11=true→b 6=true:=qH hcl 7 6 q11_7
  have q11_3:b 11=true→b 3=true:=qH hcl 6 3 q11_6
  have q11_2:b 11=true→b 2=true:=qH hcl 3 2 q11_3
  have q11_0:b 11=true→b 0=true:=qH hcl 2 0 q11_2
  have q11_1:b 11=true→b 1=true:=qH hcl 2 1 q11_2
  have q11_9:b 11=true→b 9=true:=qH hcl 11 9 id
  have q11_10:b 11=true→b 10=true:=qH hcl 11 10 id
  have Vv:=aV (congrFun hLe g);have Ee:=aE (congrFun hLe g) rfl ev
  simp only[AV,AE,Nat.zero_add,Nat.reduceAdd,and_true]at Vv Ee
  match io with
  |3|6|7|12|13=>simp only[qq]at ho;subst ho;have hd:=aD hd;simp only[AD,and_true]at hd;refine a9z rfl nofun ?_ ⟨g,λ_ _=>rfl,rfl,by simpa[did]using hS⟩;simp only[Vv];simp[execOp,go_sem,Ee,hd]
  |0=>
   simp only[qq]at ho;subst ho;have e3:=(kp 3 (aqz (by kernel_rfl))).trans b3;have n11:=nF q11_0 hb;have hB9:Below w9.heap.size w9 W:=by simpa[n11]using hS
   have hl:=(hB9.cell (p:=⟨bx,0,none⟩) (a4z x0)).trans x0;have hl2:=(hB9.cell (p:=⟨bx,1,none⟩) (a4z x1)).trans x1
   refine a9z rfl nofun (v:=.agg #[iV t,iV n]) (w':=W) ?_ ⟨g,λ_ _=>rfl,(vv0 g).symm,by simpa[did]using hS⟩
   ·simp[execOp,go_sem,e3,hl,hl2]
  |1=>
   simp only[qq]at ho;subst ho;have n11:=nF q11_1 hb
   refine Doesg.call 42 (#[]) (by unfold Region.wanted;rfl) nofun ?_ ?_
   ·simp[go_sem]
   ·exact(cR W).mono λe W' h=>⟨_,h.1,g,λ_ _=>rfl,(vv1 g).symm,by simpa[did,n11]using(show Below w9.heap.size w9 W from by simpa[n11]using hS).trans (h.2.mono (show Below w9.heap.size w9 W from by simpa[n11]using hS).size)⟩
  |2=>
   simp only[qq]at ho;subst ho;have e5:=eD ev hd 0 5 (vv0 g);have e6:=eD ev hd 1 6 (vv1 g);have n11:=nF q11_2 hb
   refine a9z rfl nofun (v:=.bool false) (w':=W) ?_ ⟨g,λ_ _=>rfl,(vv2 g).symm,by simpa[did]using hS⟩
   ·(simp[execOp,go_sem,e5,e6,binOp,cOz (t,n) (0,0),heq])
  |4=>simp only[qq]at ho;subst ho;exact Doesg.pass (by unfold Region.wanted;simp[(yl 3 8 false rfl (hG hd 3) (vv3 g))]) ⟨g,λ_ _=>rfl,(vv4 g).symm,by simpa[did]using hS⟩
  |5=>simp only[qq]at ho;subst ho;exact Doesg.pass (by unfold Region.wanted;simp[(yl 3 8 false rfl (hG hd 3) (vv3 g))]) ⟨g,λ_ _=>rfl,(vv5 g).symm,by simpa[did]using hS⟩
  |8=>
   simp only[qq]at ho;subst ho;have e0:=(kp 0 (aqz (by kernel_rfl))).trans b0;have n11:=nF q11_8 hb
   refine Doesg.value (vt) W (by unfold Region.wanted;simp[(yl 7 12 false rfl (hG hd 7) (vv7 g))]) nofun ?_ ⟨g,λ_ _=>rfl,(vv8 g).symm,by simpa[did]using hS⟩
   ·simp[execOp,go_sem,e0]
  |9=>
   simp only[qq]at ho;subst ho;have e3:=(kp 3 (aqz (by kernel_rfl))).trans b3;have n11:=nF q11_9 hb;have hB9:Below w9.heap.size w9 W:=by simpa[n11]using hS
   have hl:=(hB9.cell (p:=⟨bx,0,none⟩) (a4z x0)).trans x0;have hl2:=(hB9.cell (p:=⟨bx,1,none⟩) (a4z x1)).trans x1
   refine Doesg.value (.agg #[iV t,iV n]) W (by unfold Region.wanted;simp[(yl 7 12 false rfl (hG hd 7) (vv7 g))]) nofun ?_ ⟨g,λ_ _=>rfl,(vv9 g).symm,by simpa[did]using hS⟩
   ·simp[execOp,go_sem,e3,hl,hl2]
  |10=>
   simp only[qq]at ho;subst ho;have n11:=nF q11_10 hb
   refine Doesg.call 42 (#[]) (by unfold Region.wanted;simp[(yl 7 12 false rfl (hG hd 7) (vv7 g))]) nofun ?_ ?_
   ·simp[go_sem]
   ·exact(cR W).mono λe W' h=>⟨_,h.1,g,λ_ _=>rfl,(vv10 g).symm,by simpa[did,n11]using(show Below w9.heap.size w9 W from by simpa[n11]using hS).trans (h.2.mono (show Below w9.heap.size w9 W from by simpa[n11]using hS).size)⟩
  |11=>
   simp only[qq]at ho;subst ho;have e13:=eD ev hd 8 13 (vv8 g);have e14:=eD ev hd 9 14 (vv9 g);have e15:=eD ev hd 10 15 (vv10 g);have hS9:Below w9.heap.size w9 W:=by simpa[hb]using hS
   refine Doesg.call 41 (#[vt,idv t n,idv 0 0]) (by unfold Region.wanted;simp[(yl 7 12 false rfl (hG hd 7) (vv7 g))]) nofun ?_ ?_
   ·simp[go_sem,e13,e14,e15]
   ·refine(cK g W hS9).mono ?_
    rintro e W' ⟨x,rfl,hP⟩
    refine⟨_,rfl,g, ?_,(vv11 g).symm, ?_⟩
    ·exact λ_ _=>rfl
    ·simpa[did]using hP
  |k+14=>simp at ho
 ·intro g b W hS hall
  have hl9:b 11=true:=hall 11 (by decide)
  subst hLe
  exact hQ g W (by simpa[hl9]using hS)
section
variable {F:Nat→Prop} {w:World} {gt:VB} {s:Nat} {l:List OG} {T:List OB}
def obV (T:List OB) (bl:PI→Nat) (q:PI):Value:=if aTz T q=true then .pointer (some ⟨bl q,0,none⟩)else .pointer none
theorem iOz {F:Nat→Prop} {w:World} {mb:Nat} {B U:List PI} {bl:PI→Nat} {kv:PI→Value} {dr:PI→Bool} (h:TreeM F w mb B U bl kv dr T) {a b:PI} (hb:Bel T a b):aTz T a=true∧aTz T b=true:=by
 have up_has:∀{a b:PI},upT T a=some b→aTz T a=true∧aTz T b=true:=λ{a b} hu=>by
  obtain⟨k,o,hf,ho,_,_,e⟩:=gTz hu
  refine⟨by unfold aTz;rw[hf];simp, ?_⟩
  have hd:=h.wf.home o (List.mem_of_getElem? ho)
  have:=h.isdir (o.pt,o.pn)
  rw[hd]at this
  rw[e]
  exact(Bool.and_eq_true_iff.1 this.symm).1
 induction hb with
 |one h1=>exact up_has h1
 |far h1 _ ih=>exact⟨(up_has h1).1,ih.2⟩
theorem Seen.again {w1 w2:World} {mb mb2:Nat} {B U B2 U2:List PI} {bl bl2:PI→Nat} {dr dr2:PI→Bool} (h:Seen F w w1 gt l T s mb B U bl dr) (h2:Seen (ajz F w w1) w1 w2 gt l T s mb2 B2 U2 bl2 dr2) (hl:∀b,F b→b<w.heap.size):Seen F w w2 gt l T s mb2 B2 U2 bl2 dr2:=by
 have s1:=h.only.size
 have s2:=h2.only.size
 refine⟨h2.ts.mono (λb hb=>hiz s1 s2 hb) (λb hb=> ?_),jEz h.only h2.only⟩
 rcases hb with hb|hb
 ·have:=hl b hb;omega
 ·exact hb.2
end
end Go.Proofs.YthhakekbffembaaGreatDoor.Ck.Y

namespace Go.Proofs.YthhakekbffembaaGreatDoor.Ck.Y
open Go.RowKit Go.Maps Go.Lib
theorem TW.wide {F F':Nat→Prop} {w:World} {gt:VB} {l:List OG} (h:TW F w gt l) (hF:∀b,F b→F' b) (hl:∀b,F' b→b<w.heap.size):TW F' w gt l:=by
 rcases h with⟨U,bl,dr,hn⟩|⟨d,T,s,mb,B,U,bl,dr,hn⟩
 ·obtain⟨FO,kv,L,v,hS,hr⟩:=hn.out
  exact .inl ⟨U,bl,dr,⟨FO,kv,L,v,hS.mono hF hl,hr⟩,hn.uid,hn.ul⟩
 ·exact .inr ⟨d,T,s,mb,B,U,bl,dr,hn.mono hF hl⟩
section
variable {F:Nat→Prop} {w:World} {gt:VB} {s:Nat} {l:List OG} {T:List OB}
theorem lhz {mb:Nat} {B U:List PI} {bl:PI→Nat} {dr:PI→Bool} (h:TSm F w gt l l.length T s mb B U bl dr):
  Calls Tryz.prog 118 #[.pointer (some ⟨gt.b,0,none⟩)] w λe w'=>e=.returned (.tuple #[])∧Seen F w w' gt l T s mb B U bl dr:=by
 refine(fbz h).mono ?_
 rintro e w' ⟨rfl,⟨T',s',h1⟩,h2⟩
 obtain⟨rfl,rfl⟩:=h1.fold.unique h.fold
 exact⟨rfl,h1,h2⟩
def ngz (F:Nat→Prop) (w:World) (gt:VB) (l:List OG) (T:List OB) (s mb:Nat) (B U:List PI) (bl:PI→Nat) (dr:PI→Bool) (t n:Int) (e:Ending) (w':World):Prop:=
 e=.returned (if aTz T (t,n)=true then .pointer (some ⟨bl (t,n),0,none⟩)else .pointer none)∧Seen F w w' gt l T s mb B U bl dr
theorem jNz {mb:Nat} {B U:List PI} {bl:PI→Nat} {dr:PI→Bool} (h:TSm F w gt l l.length T s mb B U bl dr) (t n:Int):
  Calls Tryz.prog 81 #[.pointer (some ⟨gt.b,0,none⟩),idv t n] w (ngz F w gt l T s mb B U bl dr t n):=by
 have hlow:∀b,F b→b<w.heap.size:=by obtain⟨FO,kv,L,v,hS,_⟩:=h.out;exact hS.low
 have hB1:Below w.heap.size w (w.alloc (.cells #[.int .i64 t,.int .i64 n] 28)):=(Below.refl w.heap.size w).alloc (Nat.le_refl _) _
 have hc:=lhz (h.below hB1)
 have hbx:=heap_alloc_new w (.cells #[.int .i64 t,.int .i64 n] 28)
 have HH:Hid (Below w.heap.size w (w.alloc (.cells #[.int .i64 t,.int .i64 n] 28))∧(w.alloc (.cells #[.int .i64 t,.int .i64 n] 28)).heap[w.heap.size]? =some (.cells #[.int .i64 t,.int .i64 n] 28 (0,0))∧∀b,F b→b<w.heap.size):=⟨hB1,hbx,hlow⟩
 clear h hlow hB1 hbx
 go_enter Tryz.func81,Tryz.ntmps81
 go_wp2_with (go_at_call 118;refine hc.mono ?_;rintro e W ⟨rfl,hs⟩;have HS:=a0z hs;clear hs hc)
 obtain⟨FO,kv,L,v,hS,hL,hg,hD,hM⟩:=HS.out.ts.out
 have hbx:W.heap[w.heap.size]? =_:=(HS.out.only.block _ (block_lt HH.out.2.1) (λe=>by have:=HH.out.2.2 _ e;omega)).trans HH.out.2.1
 have g0:W.cell? ⟨gt.b,0,none⟩=some (.map (some mb)):=cellOf hg 0
 have x0:W.cell? ⟨w.heap.size,0,none⟩=some (.int .i64 t):=cellOf hbx 0
 have x1:W.cell? ⟨w.heap.size,1,none⟩=some (.int .i64 n):=cellOf hbx 1
 refine jaz (by kernel_rfl) gt.b w.heap.size mb t n _ W rfl rfl rfl g0 x0 x1 (λW' hW'=>(hM.below hW').look t n) ?_
 intro W2 hB2
 have HR:Hid (Seen F w W2 gt l T s mb B U bl dr):=(HS.out.of_below HH.out.1 HH.out.2.2).below hB2 HH.out.2.2
 clear hB2 g0 x0 x1 hbx hS hL hg hD hM HS
 simp only[abz,sA,sB,sC]
 generalize hvv:(if aTz T (t,n)=true then Value.pointer (some ⟨bl (t,n),0,none⟩)else .pointer none)=vv
 have HV:Hid (vv=if aTz T (t,n)=true then Value.pointer (some ⟨bl (t,n),0,none⟩)else .pointer none):=hvv.symm
 clear hvv
 go_wp2_with fail
 go_ret
 exact⟨congrArg Ending.returned HV.out,HR.out⟩
theorem i4z (h:TW F w gt l) (hf:FoldT [] 0 l T s) (t n t2 n2:Int):
  Calls Tryz.prog 41 #[.pointer (some ⟨gt.b,0,none⟩),idv t n,idv t2 n2] w λe w'=>∃r,e=.returned (.bool r)∧(r=true↔Bel T (t,n) (t2,n2))∧TW (ajz F w w') w' gt l∧Only F w w':=by
 have hlow:=h.low
 obtain⟨w1,hw1⟩:∃w1,w1=(w.alloc (.cells #[.int .i64 t,.int .i64 n] 28)).alloc (.cells #[.int .i64 t2,.int .i64 n2] 28):=⟨_,rfl⟩
 have hB1:Below w.heap.size w w1:=by rw[hw1];exact((Below.refl w.heap.size w).alloc (Nat.le_refl _) _).alloc (by simp) _
 have hx:w1.heap[w.heap.size]? =some (.cells #[.int .i64 t,.int .i64 n] 28 (0,0)):=by rw[hw1,heap_alloc_old _ _ (by simp)];exact heap_alloc_new w _
 have hy:w1.heap[w.heap.size+1]? =some (.cells #[.int .i64 t2,.int .i64 n2] 28 (0,0)):=by
  rw[hw1]
  have:=heap_alloc_new (w.alloc (.cells #[.int .i64 t,.int .i64 n] 28)) (.cells #[.int .i64 t2,.int .i64 n2] 28)
  simpa using this
 have hs1:w1.heap.size=w.heap.size+2:=by rw[hw1];simp
 have HH:Hid (TW F w1 gt l∧FoldT [] 0 l T s∧Below w.heap.size w w1∧(∀b,F b→b<w.heap.size)∧w1.heap[w.heap.size+1]? =some (.cells #[.int .i64 t2,.int .i64 n2] 28 (0,0))∧w1.heap[w.heap.size]? =some (.cells #[.int .i64 t,.int .i64 n] 28 (0,0))∧w1.heap.size=w.heap.size+2):=⟨h.below hB1,hf,hB1,hlow,hy,hx,hs1⟩
 have HW:=a0z hw1
 clear h hf hlow hw1 hB1 hx hy hs1
 go_enter Tryz.func41,Tryz.ntmps41
 go_wp2_with fail
 rw[← HW.out]
 clear HW
 refine lOz (by kernel_rfl) (.pointer (some ⟨gt.b,0,none⟩)) w.heap.size (w.heap.size+1) t n t2 n2
  (λx W=>∃mb B U bl dr,x=obV T bl (t,n)∧Seen F w1 W gt l T s mb B U bl dr)
  (λx y W=>∃mb B U bl dr,x=obV T bl (t,n)∧y=obV T bl (t2,n2)∧Seen F w1 W gt l T s mb B U bl dr) w1 rfl rfl rfl (by simp) (cellOf HH.out.2.2.2.2.2.1 0) (cellOf HH.out.2.2.2.2.2.1 1) (cellOf HH.out.2.2.2.2.1 0) (cellOf HH.out.2.2.2.2.1 1) ?_ ?_ ?_ ?_
 ·have hd:Below w1.heap.size w1 w1.drew:=⟨rfl,rfl,rfl,Nat.le_refl _,λ_ _=>rfl⟩
  have hl1:∀b,F b→b<w1.heap.size:=λb hb=>by have:=HH.out.2.2.2.1 b hb;have:=HH.out.2.2.2.2.2.2;omega
  refine(bSz (HH.out.1.below hd) HH.out.2.1 t n).mono ?_
  rintro e W ⟨mb,B,U,bl,dr,rfl,hs⟩
  exact⟨_,rfl,mb,B,U,bl,dr,rfl,hs.of_below hd hl1⟩
 ·rintro x W ⟨mb,B,U,bl,dr,rfl,hs⟩
  have:=(hs.only.block _ (block_lt HH.out.2.2.2.2.1) (λe=>by have:=HH.out.2.2.2.1 _ e;omega)).trans HH.out.2.2.2.2.1
  exact⟨cellOf this 0,cellOf this 1⟩
 ·rintro x W ⟨mb,B,U,bl,dr,rfl,hs⟩
  have hl1:∀b,F b→b<w1.heap.size:=λb hb=>by have:=HH.out.2.2.2.1 b hb;have:=HH.out.2.2.2.2.2.2;omega
  refine(jNz hs.ts t2 n2).mono ?_
  rintro e W' ⟨rfl,hs2⟩
  exact⟨_,rfl,mb,B,U,bl,dr,rfl,rfl,hs.again hs2 hl1⟩
 ·rintro⟨x,y⟩ W ⟨mb,B,U,bl,dr,hxv,hyv,hs⟩
  simp only at hxv hyv
  subst hxv
  subst hyv
  have hs':=hs.of_below HH.out.2.2.1 HH.out.2.2.2.1
  obtain⟨FO,kv,L,v,hS,hL,hg,hD,hM⟩:=hs'.ts.out
  have HR:Hid (TW (ajz F w W) W gt l∧Only F w W):=⟨hs'.tw,hs'.only⟩
  simp only[abz,sA,sB,sC]
  cases hh1:aTz T (t,n)with
  |false=>
   have e1:obV T bl (t,n)=.pointer none:=by unfold obV;rw[hh1];rfl
   have HN:Hid (¬Bel T (t,n) (t2,n2)):=λhb=>by rw[(iOz hM hb).1]at hh1;cases hh1
   rw[e1]
   generalize obV T bl (t2,n2)=v2
   clear hs hs' hS hL hg hD hM
   go_wp2_with fail
   go_ret
   exact⟨false,rfl,⟨(λe=>by cases e),λe=>absurd e HN.out⟩,HR.out⟩
  |true=>
   have e1:obV T bl (t,n)=.pointer (some ⟨bl (t,n),0,none⟩):=by unfold obV;rw[hh1];rfl
   rw[e1]
   cases hh2:aTz T (t2,n2)with
   |false=>
    have e2:obV T bl (t2,n2)=.pointer none:=by unfold obV;rw[hh2];rfl
    have HN:Hid (¬Bel T (t,n) (t2,n2)):=λhb=>by rw[(iOz hM hb).2]at hh2;cases hh2
    rw[e2]
    clear hs hs' hS hL hg hD hM
    go_wp2_with fail
    go_ret
    exact⟨false,rfl,⟨(λe=>by cases e),λe=>absurd e HN.out⟩,HR.out⟩
   |true=>
    have e2:obV T bl (t2,n2)=.pointer (some ⟨bl (t2,n2),0,none⟩):=by unfold obV;rw[hh2];rfl
    rw[e2]
    have hbel:=eSz hM.objs hM.par hM.wf.rank (hM.inU hh1) (hM.inU hh2)
    clear hs hs' hS hL hg hD hM
    go_wp2_with (go_at_call 82;refine hbel.mono ?_;rintro e W' ⟨r,rfl,hr,rfl⟩;clear hbel;have HQ:=a0z hr;clear hr)
    go_ret
    exact⟨r,rfl,HQ.out,HR.out⟩
theorem jSz (h:TW F w gt l) (hf:FoldT [] 0 l T s) (t n:Int):
  Calls Tryz.prog 57 #[.pointer (some ⟨gt.b,0,none⟩),idv t n] w λe w'=>∃r,e=.returned (.bool r)∧(r=true↔(t=0∧n=0)∨Bel T (t,n) (0,0))∧TW (ajz F w w') w' gt l∧Only F w w':=by
 have hlow:=h.low
 have hB1:Below w.heap.size w (w.alloc (.cells #[.int .i64 t,.int .i64 n] 28)):=(Below.refl w.heap.size w).alloc (Nat.le_refl _) _
 have hx:=heap_alloc_new w (.cells #[.int .i64 t,.int .i64 n] 28)
 have HH:=a0z (agz h (agz hf (agz hB1 (agz hlow hx))))
 clear h hf hlow hB1 hx
 by_cases h0:t=0∧n=0
 ·obtain⟨rfl,rfl⟩:=h0
  go_enter Tryz.func57,Tryz.ntmps57
  go_wp2_with fail
  refine ltz (by kernel_rfl) gt.b w.heap.size _ rfl rfl rfl (cellOf HH.out.2.2.2.2 0) (cellOf HH.out.2.2.2.2 1) (λW _=>Cd.root_any W) ?_
  intro W hB
  have HB:Hid (Below w.heap.size w W):=HH.out.2.2.1.trans (hB.mono HH.out.2.2.1.size)
  clear hB
  simp only[abz,sA,sB,sC]
  go_wp2_with fail
  go_ret
  refine⟨true,rfl,⟨λ_=>.inl (by simp),λ_=>rfl⟩, ?_,Below.only HB.out F⟩
  have ht:=HH.out.1.below HB.out
  have z:=HB.out.size
  rcases ht with⟨U,bl,dr,hn⟩|⟨d,T,s,mb,B,U,bl,dr,hn⟩
  ·obtain⟨FO,kv,L,v,hS,hr⟩:=hn.out
   exact .inl ⟨U,bl,dr,⟨FO,kv,L,v,hS.mono (λb hb=>.inl hb) (λb hb=>hb.elim (hS.low b) λe=>e.2),hr⟩,hn.uid,hn.ul⟩
  ·have hlw:∀b,F b→b<W.heap.size:=λb hb=>by have:=HH.out.2.2.2.1 b hb;omega
   exact .inr ⟨d,T,s,mb,B,U,bl,dr,hn.mono (λb hb=>.inl hb) λb hb=>hb.elim (hlw b) λe=>e.2⟩
 ·obtain⟨rb,hrb⟩:∃rb:Bool,rb=true↔Bel T (t,n) (0,0):=by
   by_cases hB:Bel T (t,n) (0,0)
   ·exact⟨true,⟨λ_=>hB,λ_=>rfl⟩⟩
   ·exact⟨false,⟨(λe=>by cases e),λe=>absurd e hB⟩⟩
  have HRB:=a0z hrb
  clear hrb
  go_enter Tryz.func57,Tryz.ntmps57
  go_wp2_with fail
  refine mFz (by kernel_rfl) (.pointer (some ⟨gt.b,0,none⟩)) w.heap.size t n rb (λW=>TW (ajz F w W) W gt l∧Only F w W) _ rfl rfl rfl h0 (cellOf HH.out.2.2.2.2 0) (cellOf HH.out.2.2.2.2 1) (λW=>Cd.root_any W) (λW hW=> ?_) ?_
  ·have hb:=HH.out.2.2.1.trans (hW.mono HH.out.2.2.1.size)
   refine(i4z (HH.out.1.below hb) HH.out.2.1 t n 0 0).mono ?_
   rintro e W' ⟨r,rfl,hr,h1,h2⟩
   have er:r=rb:=by
    have:=hr.trans HRB.out.symm
    cases r<;>cases rb<;>simp_all
   rw[er]
   have z1:=hb.size
   have z2:=h2.size
   refine⟨rfl,h1.wide (λb hb'=> ?_) (λb hb'=> ?_),(Below.only hb F).next h2⟩
   ·rcases hb' with hb'|hb'
    ·exact .inl hb'
    ·exact .inr ⟨by omega,hb'.2⟩
   ·rcases hb' with hb'|hb'
    ·have:=HH.out.2.2.2.1 b hb';omega
    ·exact hb'.2
  ·intro _ W hW
   have HWW:=a0z hW
   clear hW
   simp only[abz,sA,sB,sC]
   go_wp2_with fail
   go_ret
   refine⟨rb,rfl,⟨λe=>.inr (HRB.out.1 e),λe=> ?_⟩,HWW.out⟩
   rcases e with e|e
   ·exact absurd e h0
   ·exact HRB.out.2 e
def hyz (T:List OB) (q:PI):Value:=match amz T q with
 |some (p,nm)=>.tuple #[idv p.1 p.2,.string nm,.bool true]
 |none=>.tuple #[idv 0 0,.string ⟨#[]⟩,.bool false]
theorem igz (h:TW F w gt l) (hf:FoldT [] 0 l T s) (t n:Int):
  Calls Tryz.prog 40 #[.pointer (some ⟨gt.b,0,none⟩),idv t n] w λe w'=>e=.returned (hyz T (t,n))∧TW (ajz F w w') w' gt l∧Only F w w':=by
 have hlow:=h.low
 obtain⟨w1,hw1⟩:∃w1,w1=(w.alloc (.cells #[.int .i64 t,.int .i64 n] 28)).alloc (.cells #[.int .i64 0,.int .i64 0] 28):=⟨_,rfl⟩
 have hB1:Below w.heap.size w w1:=by rw[hw1];exact((Below.refl w.heap.size w).alloc (Nat.le_refl _) _).alloc (by simp) _
 have hy:w1.heap[w.heap.size+1]? =some (.cells #[.int .i64 0,.int .i64 0] 28 (0,0)):=by
  rw[hw1]
  have:=heap_alloc_new (w.alloc (.cells #[.int .i64 t,.int .i64 n] 28)) (.cells #[.int .i64 0,.int .i64 0] 28)
  simpa using this
 have hs1:w1.heap.size=w.heap.size+2:=by rw[hw1];simp
 have fin:∀{W:World} {mb:Nat} {B U:List PI} {bl:PI→Nat} {dr:PI→Bool} (u v:Value),Seen F w1 W gt l T s mb B U bl dr→Hid (TW (ajz F w ((W.setCell ⟨w.heap.size+1,0,none⟩ u).setCell ⟨w.heap.size+1,1,none⟩ v)) ((W.setCell ⟨w.heap.size+1,0,none⟩ u).setCell ⟨w.heap.size+1,1,none⟩ v) gt l∧Only F w ((W.setCell ⟨w.heap.size+1,0,none⟩ u).setCell ⟨w.heap.size+1,1,none⟩ v)):=λ{W mb B U bl dr} u v hs=>by
  have ho:=bVz W (w.heap.size+1) 0 1 u v
  have z1:=hs.only.size
  have z2:=ho.size
  refine⟨(hs.tw.kept ho λb hb e=> ?_).wide (λb hb=> ?_) (λb hb=> ?_),((Below.only hB1 F).next hs.only).trans ho λj hj=>.inr (by omega)⟩
  ·rcases hb with hb|hb
   ·have:=hlow b hb;omega
   ·omega
  ·rcases hb with hb|hb
   ·exact .inl hb
   ·exact .inr ⟨by omega,by omega⟩
  ·rcases hb with hb|hb
   ·have:=hlow b hb;omega
   ·exact hb.2
 cases hpl:amz T (t,n)with
 |none=>
  have hpv:hyz T (t,n)=.tuple #[idv 0 0,.string ⟨#[]⟩,.bool false]:=by unfold hyz;rw[hpl]
  rw[hpv]
  cases hh:aTz T (t,n)with
  |false=>
   have hc:Calls Tryz.prog 81 #[.pointer (some ⟨gt.b,0,none⟩),idv t n] w1 λe W=>e=.returned (.pointer none)∧W.cell? ⟨w.heap.size+1,0,none⟩=some (.int .i64 0)∧W.cell? ⟨w.heap.size+1,1,none⟩=some (.int .i64 0)∧W.frozen? ⟨w.heap.size+1,0,none⟩=false∧W.frozen? ⟨w.heap.size+1,1,none⟩=false∧Hid (∀(u v:Value),TW (ajz F w ((W.setCell ⟨w.heap.size+1,0,none⟩ u).setCell ⟨w.heap.size+1,1,none⟩ v)) ((W.setCell ⟨w.heap.size+1,0,none⟩ u).setCell ⟨w.heap.size+1,1,none⟩ v) gt l∧Only F w ((W.setCell ⟨w.heap.size+1,0,none⟩ u).setCell ⟨w.heap.size+1,1,none⟩ v)):=by
    refine(bSz (h.below hB1) hf t n).mono ?_
    rintro e W ⟨mb,B,U,bl,dr,rfl,hs⟩
    have hrb:=(hs.only.block _ (block_lt hy) (λe=>by have:=hlow _ e;omega)).trans hy
    rw[if_neg (by rw[hh];decide)]
    exact⟨rfl,cellOf hrb 0,cellOf hrb 1,aez hrb 0,aez hrb 1,λu v=>(fin u v hs).out⟩
   rw[hw1]at hc
   clear h hf hlow hw1 hB1 hy hs1 fin hpl hpv hh
   go_enter Tryz.func40,Tryz.ntmps40
   go_wp2_with (go_at_call 81;refine hc.mono ?_;rintro e W ⟨rfl,r0,r1,f0,f1,HF⟩;clear hc)
   refine bodyPost_ret (v:=.tuple #[idv 0 0,.string ⟨#[]⟩,.bool false]) (by simp[results,Tryz.results40,go_sem,r0,r1]) rfl ?_
   exact⟨rfl,HF.out _ _⟩
  |true=>
   have hc:Calls Tryz.prog 81 #[.pointer (some ⟨gt.b,0,none⟩),idv t n] w1 λe W=>∃b:Nat,e=.returned (.pointer (some ⟨b,0,none⟩))∧W.cell? ⟨b,0,none⟩=some (.pointer none)∧W.cell? ⟨w.heap.size+1,0,none⟩=some (.int .i64 0)∧W.cell? ⟨w.heap.size+1,1,none⟩=some (.int .i64 0)∧W.frozen? ⟨w.heap.size+1,0,none⟩=false∧W.frozen? ⟨w.heap.size+1,1,none⟩=false∧Hid (∀(u v:Value),TW (ajz F w ((W.setCell ⟨w.heap.size+1,0,none⟩ u).setCell ⟨w.heap.size+1,1,none⟩ v)) ((W.setCell ⟨w.heap.size+1,0,none⟩ u).setCell ⟨w.heap.size+1,1,none⟩ v) gt l∧Only F w ((W.setCell ⟨w.heap.size+1,0,none⟩ u).setCell ⟨w.heap.size+1,1,none⟩ v)):=by
    refine(bSz (h.below hB1) hf t n).mono ?_
    rintro e W ⟨mb,B,U,bl,dr,rfl,hs⟩
    have hrb:=(hs.only.block _ (block_lt hy) (λe=>by have:=hlow _ e;omega)).trans hy
    rw[if_pos hh]
    obtain⟨FO,kv,L,v,hS,hL,hg,hD,hM⟩:=hs.ts.out
    refine⟨bl (t,n),rfl, ?_,cellOf hrb 0,cellOf hrb 1,aez hrb 0,aez hrb 1,λu v=>(fin u v hs).out⟩
    rw[hM.objs.cell (hM.inU hh) 0,hpl]
    rfl
   rw[hw1]at hc
   clear h hf hlow hw1 hB1 hy hs1 fin hpl hpv hh
   go_enter Tryz.func40,Tryz.ntmps40
   go_wp2_with (go_at_call 81;refine hc.mono ?_;rintro e W ⟨b,rfl,c0,r0,r1,f0,f1,HF⟩;clear hc)
   refine bodyPost_ret (v:=.tuple #[idv 0 0,.string ⟨#[]⟩,.bool false]) (by simp[results,Tryz.results40,go_sem,r0,r1]) rfl ?_
   exact⟨rfl,HF.out _ _⟩
 |some pn=>
  obtain⟨p,nm⟩:=pn
  have hpv:hyz T (t,n)=.tuple #[idv p.1 p.2,.string nm,.bool true]:=by unfold hyz;rw[hpl]
  rw[hpv]
  have hh:aTz T (t,n)=true:=by
   obtain⟨k,o,hk,_⟩:=caz hpl
   unfold aTz
   rw[hk]
   simp
  have hc:Calls Tryz.prog 81 #[.pointer (some ⟨gt.b,0,none⟩),idv t n] w1 λe W=>∃b u:Nat,e=.returned (.pointer (some ⟨b,0,none⟩))∧W.cell? ⟨b,0,none⟩=some (.pointer (some ⟨u,0,none⟩))∧W.cell? ⟨b,1,none⟩=some (.string nm)∧W.cell? ⟨u,2,none⟩=some (.int .i64 p.1)∧W.cell? ⟨u,3,none⟩=some (.int .i64 p.2)∧b≠w.heap.size+1∧u≠w.heap.size+1∧W.cell? ⟨w.heap.size+1,0,none⟩=some (.int .i64 0)∧W.cell? ⟨w.heap.size+1,1,none⟩=some (.int .i64 0)∧W.frozen? ⟨w.heap.size+1,0,none⟩=false∧W.frozen? ⟨w.heap.size+1,1,none⟩=false∧Hid (∀(u v:Value),TW (ajz F w ((W.setCell ⟨w.heap.size+1,0,none⟩ u).setCell ⟨w.heap.size+1,1,none⟩ v)) ((W.setCell ⟨w.heap.size+1,0,none⟩ u).setCell ⟨w.heap.size+1,1,none⟩ v) gt l∧Only F w ((W.setCell ⟨w.heap.size+1,0,none⟩ u).setCell ⟨w.heap.size+1,1,none⟩ v)):=by
   refine(bSz (h.below hB1) hf t n).mono ?_
   rintro e W ⟨mb,B,U,bl,dr,rfl,hs⟩
   have hrb:=(hs.only.block _ (block_lt hy) (λe=>by have:=hlow _ e;omega)).trans hy
   rw[if_pos hh]
   obtain⟨FO,kv,L,v,hS,hL,hg,hD,hM⟩:=hs.ts.out
   have hU:=hM.inU hh
   have hpU:=hM.par _ hU _ _ hpl
   refine⟨bl (t,n),bl p,rfl, ?_, ?_,hM.objs.cell hpU 2,hM.objs.cell hpU 3,aiz (hM.objs.obj _ hU) hrb (by decide),aiz (hM.objs.obj _ hpU) hrb (by decide),cellOf hrb 0,cellOf hrb 1,aez hrb 0,aez hrb 1,λu v=>(fin u v hs).out⟩
   ·rw[hM.objs.cell hU 0,hpl];rfl
   ·rw[hM.objs.cell hU 1,hpl];rfl
  rw[hw1]at hc
  clear h hf hlow hw1 hB1 hy hs1 fin hpl hpv hh
  go_enter Tryz.func40,Tryz.ntmps40
  go_wp2_with (go_at_call 81;refine hc.mono ?_;rintro e W ⟨b,u,rfl,c0,c1,c2,c3,hbn,hun,r0,r1,f0,f1,HF⟩;clear hc)
  refine klz (by kernel_rfl) (w.heap.size+1) b u p.1 p.2 nm _ _ W rfl rfl rfl hbn hun c0 c1 c2 c3 r0 r1 f0 f1 ?_
  intro _ W4 hW4
  rw[hW4]
  clear hW4 W4 c0 c1 c2 c3
  simp only[abz,sA,sB,sC]
  go_wp2_with fail
  refine bodyPost_ret (v:=.tuple #[idv p.1 p.2,.string nm,.bool true]) (by simp[results,Tryz.results40,go_sem,r0,r1]) rfl ?_
  have hd:Only (λ_=>False) ((W.setCell ⟨w.heap.size+1,0,none⟩ (.int .i64 p.1)).setCell ⟨w.heap.size+1,1,none⟩ (.int .i64 p.2)) ((W.drew.setCell ⟨w.heap.size+1,0,none⟩ (.int .i64 p.1)).setCell ⟨w.heap.size+1,1,none⟩ (.int .i64 p.2)):=⟨rfl,rfl,rfl,Nat.le_refl _,λ_ _ _=>rfl⟩
  exact⟨rfl,(HF.out _ _).1.kept hd (λ_ _ f=>f),(HF.out _ _).2.next (atz hd λ_ f=>f.elim)⟩
end
end Go.Proofs.YthhakekbffembaaGreatDoor.Ck.Y

namespace Go.Proofs.YthhakekbffembaaGreatDoor.Ck.Y
open Go.RowKit Go.Maps Go.Lib
variable {w:World} {m:List PI}
def KidR (w:World) (ib len:Nat) (m:List PI) (i:Nat):Prop:=∃cur,w.heap[ib]? =some (.cells cur 28 (0,0))∧cur.size=len*2∧cur.toList.take (i*2)=aKz (m.take i)
theorem KidR.step {ib len:Nat} {i:Nat} {x:PI} (h:KidR w ib len m i) (hx:m[i]? =some x) (hl:m.length=len):KidR ((w.setCell ⟨ib,i*2,none⟩ (.int .i64 x.1)).setCell ⟨ib,i*2+1,none⟩ (.int .i64 x.2)) ib len m (i+1):=by
 obtain⟨cur,hb,hs,ht⟩:=h
 have hil:=(List.getElem?_eq_some_iff.1 hx).1
 refine⟨_,a7z (k:=i*2+1) (a7z (k:=i*2) hb _) _,by simp[hs], ?_⟩
 have hcl:cur.toList.length=len*2:=by rw[Array.length_toList,hs]
 rw[Array.toList_setIfInBounds,Array.toList_setIfInBounds,List.take_add_one,hx]
 have e1:aKz (m.take i++(some x).toList)=aKz (m.take i)++[.int .i64 x.1,.int .i64 x.2]:=by
  rw[c0z]
  rfl
 rw[e1,← ht]
 apply List.ext_getElem?
 intro k
 rw[List.getElem?_take]
 by_cases hk:k<i*2
 ·rw[if_pos (by omega),List.getElem?_append_left (by rw[List.length_take];omega),List.getElem?_take_of_lt hk,List.getElem?_set_ne (by omega),List.getElem?_set_ne (by omega)]
 ·rw[List.getElem?_append_right (by rw[List.length_take];omega),List.length_take,Nat.min_eq_left (by omega)]
  by_cases h0:k=i*2
  ·subst h0
   rw[if_pos (by omega),List.getElem?_set_ne (by omega),List.getElem?_set_self (by rw[hcl];omega),Nat.sub_self]
   rfl
  ·by_cases h1:k=i*2+1
   ·subst h1
    rw[if_pos (by omega),List.getElem?_set_self (by rw[List.length_set,hcl];omega),show i*2+1-i*2=1 by omega]
    rfl
   ·rw[if_neg (by omega),List.getElem?_eq_none (by simp;omega)]
theorem KidR.cells {ib len:Nat} {i k:Nat} (h:KidR w ib len m i) (hk:k<len*2):∃y,w.cell? ⟨ib,k,none⟩=some y∧w.frozen? ⟨ib,k,none⟩=false:=by
 obtain⟨cur,hb,hs,_⟩:=h
 exact⟨_,(cellOf hb k).trans (Array.getElem?_eq_getElem (by omega)),aez hb k⟩
theorem lnz {F:Nat→Prop} {mb:Nat} {B U:List PI} {bl:PI→Nat} {kv:PI→Value} {dr:PI→Bool} {T:List OB} (h:TreeM F w mb B U bl kv dr T) {q:PI} (hm:KidsP U (amz T) q m):IsKids T q.1 q.2 m:=by
 refine⟨(List.perm_ext_iff_of_nodup hm.nodup ?_).2 λr=> ?_,hm.rise⟩
 ·unfold bvz
  have hn:(T.map idp).Nodup:=(apartT_ids.1 h.wf.apart).imp λ{a b} hab e=>hab ⟨congrArg Prod.fst e,congrArg Prod.snd e⟩
  exact List.Nodup.sublist (List.Sublist.map idp List.filter_sublist) hn
 ·rw[hm.mem]
  unfold bvz
  rw[List.mem_map]
  constructor
  ·rintro⟨_,nm,hp⟩
   obtain⟨k,o,hf,ho,e1,e2,e3⟩:=caz hp
   refine⟨o,List.mem_filter.2 ⟨List.mem_of_getElem? ho, ?_⟩,e1⟩
   exact sameB_iff.2 ⟨congrArg Prod.fst e2,congrArg Prod.snd e2⟩
  ·rintro⟨o,ho,e⟩
   obtain⟨hoT,hs⟩:=List.mem_filter.1 ho
   obtain⟨s1,s2⟩:=sameB_iff.1 hs
   obtain⟨k,hk,ek⟩:=List.getElem_of_mem hoT
   have hk':T[k]? =some o:=by rw[List.getElem?_eq_getElem hk,ek]
   refine⟨by rw[← e];exact h.ids o hoT,o.nm, ?_⟩
   rw[← e]
   have:=bKz (q:=idp o) (cWz h.wf.apart hk') hk'
   rw[this,s1,s2]
theorem n9z {F:Nat→Prop} {mb:Nat} {B U:List PI} {bl:PI→Nat} {kv:PI→Value} {dr:PI→Bool} {T:List OB} (h:TreeM F w mb B U bl kv dr T) {t n:Int} (hh:aTz T (t,n)=false):IsKids T t n []:=by
 refine⟨?_,List.Pairwise.nil⟩
 have:bvz T t n=[]:=by
  unfold bvz
  rw[List.map_eq_nil_iff,List.filter_eq_nil_iff]
  intro o ho hs
  obtain⟨s1,s2⟩:=sameB_iff.1 hs
  have hd:=h.wf.home o ho
  have:=h.isdir (o.pt,o.pn)
  rw[hd]at this
  have h2:=(Bool.and_eq_true_iff.1 this.symm).1
  rw[s1,s2,hh]at h2
  cases h2
 rw[this]
def j4z (F:Nat→Prop) (w:World) (gt:VB) (l:List OG) (T:List OB) (t n:Int) (e:Ending) (w':World):Prop:=∃v m,e=.returned v∧RowI w' w.heap.size v m∧IsKids T t n m∧m.length≤900∧(∃G,TW G w' gt l∧(∀b,G b→ajz F w w' b)∧∀g,v.ownBlock=some g→¬G g)∧Only F w w'
section
variable {F:Nat→Prop} {w:World} {gt:VB} {s:Nat} {l:List OG} {T:List OB}
theorem jtz (h:TW F w gt l) (hf:FoldT [] 0 l T s) (t n:Int):
  Calls Tryz.prog 88 #[.pointer (some ⟨gt.b,0,none⟩),idv t n] w (j4z F w gt l T t n):=by
 have hlow:=h.low
 have hB1:Below w.heap.size w (w.alloc (.cells #[.int .i64 t,.int .i64 n] 28)):=(Below.refl w.heap.size w).alloc (Nat.le_refl _) _
 cases hh:aTz T (t,n)with
 |false=>
  have hc:Calls Tryz.prog 81 #[.pointer (some ⟨gt.b,0,none⟩),idv t n] (w.alloc (.cells #[.int .i64 t,.int .i64 n] 28)) λe W=>e=.returned (.pointer none)∧Hid (IsKids T t n []∧TW (ajz F w W) W gt l∧Only F w W):=by
   refine(bSz (h.below hB1) hf t n).mono ?_
   rintro e W ⟨mb,B,U,bl,dr,rfl,hs⟩
   rw[if_neg (by rw[hh];decide)]
   have hs':=hs.of_below hB1 hlow
   obtain⟨FO,kv,L,v,hS,hL,hg,hD,hM⟩:=hs'.ts.out
   exact⟨rfl,n9z hM hh,hs'.tw,hs'.only⟩
  clear h hf hlow hB1 hh
  go_enter Tryz.func88,Tryz.ntmps88
  go_wp2_with (go_at_call 81;refine hc.mono ?_;rintro e W ⟨rfl,HR⟩;clear hc)
  go_ret
  exact⟨.slice none 0 0,[],rfl,RowI.nil _ _,HR.out.1,Nat.zero_le _,⟨_,HR.out.2.1,λ_ h=>h,λg hg=>by cases hg⟩,HR.out.2.2⟩
 |true=>
  have hc:Calls Tryz.prog 81 #[.pointer (some ⟨gt.b,0,none⟩),idv t n] (w.alloc (.cells #[.int .i64 t,.int .i64 n] 28)) λe W=>∃b p len cp,e=.returned (.pointer (some ⟨b,0,none⟩))∧W.cell? ⟨b,5,none⟩=some (.slice p len cp)∧len≤900∧len≤cp∧
    Hid (∃m,IsKids T t n m∧m.length=len∧TW (ajz F w W) W gt l∧Only F w W∧∀i x,m[i]? =some x→∃g k:Nat,p=some ⟨g,0,none⟩∧W.cell? ⟨g,i,none⟩=some (.pointer (some ⟨k,0,none⟩))∧W.cell? ⟨k,2,none⟩=some (.int .i64 x.1)∧W.cell? ⟨k,3,none⟩=some (.int .i64 x.2)):=by
   refine(bSz (h.below hB1) hf t n).mono ?_
   rintro e W ⟨mb,B,U,bl,dr,rfl,hs⟩
   rw[if_pos hh]
   have hs':=hs.of_below hB1 hlow
   obtain⟨FO,kv,L,v,hS,hL,hg,hD,hM⟩:=hs'.ts.out
   have hU:=hM.inU hh
   obtain⟨m,hm,hr⟩:=hM.objs.kid _ hU
   obtain⟨p,cp,e,hlc,_,hpp⟩:=hr.form
   have hml:=hm.len
   have hul:=hM.objs.len
   rw[List.length_map]at e hlc hpp
   refine⟨bl (t,n),p,m.length,cp,rfl, ?_,by omega,hlc,m,lnz hM hm,rfl,hs'.tw,hs'.only,λi x hx=> ?_⟩
   ·rw[hM.objs.cell hU 5,← e];rfl
   ·have hil:=(List.getElem?_eq_some_iff.1 hx).1
    obtain⟨g,hpg,hcell⟩:=hpp (by omega)
    have hxU:=((hm.mem x).1 (List.mem_of_getElem? hx)).1
    exact⟨g,bl x,hpg,hcell i (bl x) (by rw[List.getElem?_map,hx];rfl),hM.objs.cell hxU 2,hM.objs.cell hxU 3⟩
  have HL:=a0z hlow
  clear h hf hlow hB1 hh
  obtain⟨i0,hi0,hz0,hz1,hz2⟩:=g2z
  have hmk:∀(W:World) (len:Nat),len≤900→∃M:Array Value,(Instr.makeSlice 96 (.int .i64 (len:Nat)) (.int .i64 (len:Nat))).run Tryz.prog W=.ok (.slice (some ⟨W.heap.size,0,none⟩) len len) (W.alloc (.cells M 28))∧M.size=len*2:=λW len hl=>by
   have h:=run_make (P:=Tryz.prog) W 96 28 i0 _ Tryz.underlying96 hi0 hz0 .i64 .i64 (len:Nat) (len:Nat) (by omega) (by omega) (by rw[hz2];omega) (by omega)
   refine⟨_,by simpa using h, ?_⟩
   rw[size_madeCells,hz1]
  clear hi0 hz0 hz1 hz2
  go_enter Tryz.func88,Tryz.ntmps88
  go_wp2_with (go_at_call 81;refine hc.mono ?_;rintro e W ⟨b,p,len,cp,rfl,c5,hl9,hlc,HR⟩;clear hc;obtain⟨M,hmk1,hMs⟩:=hmk W len hl9;clear hmk;have c5b:=dmz c5 (.cells M 28))
  clear c5 c5b hmk1
  obtain⟨m,HM⟩:∃m,Hid (IsKids T t n m∧m.length=len∧TW (ajz F w W) W gt l∧Only F w W∧∀i x,m[i]? =some x→∃g k:Nat,p=some ⟨g,0,none⟩∧W.cell? ⟨g,i,none⟩=some (.pointer (some ⟨k,0,none⟩))∧W.cell? ⟨k,2,none⟩=some (.int .i64 x.1)∧W.cell? ⟨k,3,none⟩=some (.int .i64 x.2)):=by
   obtain⟨m,hm⟩:=HR.out
   exact⟨m,hm⟩
  clear HR
  have hK0:Hid (KidR (W.alloc (.cells M 28)) W.heap.size len m 0):=⟨M,heap_alloc_new W _,hMs,by simp[aKz]⟩
  clear hMs
  obtain⟨ib,hib⟩:∃ib,ib=W.heap.size:=⟨_,rfl⟩
  have HIB:=a0z hib
  rw[← hib]at hK0⊢
  clear hib
  go_loopw [25] (λvi wr=>∃i:Nat,vi=.int .i64 i∧i≤len∧Hid (Only (· =ib) (W.alloc (.cells M 28)) wr∧KidR wr ib len m i)) (λvi _=>len-(RowKit.intOf vi).toNat)
  case atStart=>exact⟨0,rfl,Nat.zero_le _,Only.refl _ _,hK0.out⟩
  case round=>
   obtain⟨i,rfl,hil,HI⟩:=hrel
   by_cases hlt:i<len
   ·have hltI:(i:Int)<(len:Int):=by omega
    obtain⟨x,hx⟩:∃x,m[i]? =some x:=⟨_,List.getElem?_eq_getElem (by rw[HM.out.2.1];exact hlt)⟩
    obtain⟨g,k,rfl,d1,d2,d3⟩:=HM.out.2.2.2.2 i x hx
    have up:∀{a c:Nat} {v:Value},W.cell? ⟨a,c,none⟩=some v→wr.cell? ⟨a,c,none⟩=some v:=λ{a c v} hv=>b1z HI.out.1 (dmz hv _) (λe=>by have:=a4z hv;have:=HIB.out;omega)
    have e1:=up d1
    have e2:=up d2
    have e3:=up d3
    obtain⟨y0,r0,f0⟩:=HI.out.2.cells (k:=i*2) (by omega)
    obtain⟨y1,r1,f1⟩:=HI.out.2.cells (k:=i*2+1) (by omega)
    have HN:Hid (Only (· =ib) (W.alloc (.cells M 28)) ((wr.setCell ⟨ib,i*2,none⟩ (.int .i64 x.1)).setCell ⟨ib,i*2+1,none⟩ (.int .i64 x.2))∧KidR ((wr.setCell ⟨ib,i*2,none⟩ (.int .i64 x.1)).setCell ⟨ib,i*2+1,none⟩ (.int .i64 x.2)) ib len m (i+1)):=⟨HI.out.1.next (bVz _ _ _ _ _ _),HI.out.2.step hx HM.out.2.1⟩
    clear d1 d2 d3 hx up
    go_wp2_with fail
    go_roundw
    case rel=>exact⟨i+1,by go_num,by omega,HN.out⟩
    case measure=>simp[RowKit.intOf];omega
   ·have hltI:¬(i:Int)<(len:Int):=by omega
    have hie:i=len:=by omega
    have HE:Hid (j4z F w gt l T t n (.returned (.slice (some ⟨ib,0,none⟩) len len)) wr):=by
     obtain⟨cur,hb,hs,ht⟩:=HI.out.2
     obtain⟨m1,m2,m3,m4,_⟩:=HM.out
     have hib:=HIB.out
     have hBa:Below W.heap.size W (W.alloc (.cells M 28)):=(Below.refl W.heap.size W).alloc (Nat.le_refl _) _
     have ho:Only (λb=>b=ib) W wr:=(Below.only hBa _).next HI.out.1
     have z1:=m4.size
     have z2:=ho.size
     refine⟨_,m,rfl, ?_,m1,by omega,⟨ajz F w W,m3.kept ho λb hb' e=> ?_,λb hb'=> ?_,λg hg hb'=> ?_⟩,m4.trans ho λj hj=>.inr (by omega)⟩
     ·refine⟨cqz m,.inr ⟨ib,len,cur,by rw[m2],by omega,hb,by omega,by unfold maxLen;omega,hs, ?_⟩⟩
      rw[m2,← hie,ht,List.take_of_length_le (by omega)]
     ·rcases hb' with hb'|hb'
      ·have:=HL.out b hb';omega
      ·omega
     ·rcases hb' with hb'|hb'
      ·exact .inl hb'
      ·exact .inr ⟨hb'.1,by omega⟩
     ·have e:g=ib:=by cases hg;rfl
      rw[e]at hb'
      rcases hb' with hb'|hb'
      ·have:=HL.out ib hb';omega
      ·have:=hb'.2;omega
    go_wp2_with fail
    go_ret
    exact HE.out
end
end Go.Proofs.YthhakekbffembaaGreatDoor.Ck.Y
