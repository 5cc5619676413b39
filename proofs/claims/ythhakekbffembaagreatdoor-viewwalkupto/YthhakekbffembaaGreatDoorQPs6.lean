import Derived.Test.YthhakekbffembaaGreatDoorKPr6
import Derived.Test.YthhakekbffembaaGreatDoorQOd
set_option maxRecDepth 8000
set_option maxHeartbeats 4000000

namespace Go.Proofs.YthhakekbffembaaGreatDoor.Ck.Y
open Go.RowKit Go.Maps Go.Lib
def ddz (n:Int):Array Value:= #[.pointer none,.string ⟨#[]⟩,.int .i64 0,.int .i64 n,.bool true,.slice none 0 0]
def euz (g:Nat×Nat×Nat×Bool) (b5 b10:Bool):List (PI×Nat):=
 if b5=true then(if b10=true then(if g.2.2.2=true then[((0,0),g.2.1),((0,1),g.2.2.1)]else[((0,1),g.2.2.1),((0,0),g.2.1)])else[((0,0),g.2.1)])else(if b10=true then[((0,1),g.2.2.1)]else[])
structure BareS (w9:World) (g:Nat×Nat×Nat×Bool) (b0 b4 b5 b9 b10:Bool) (W:World):Prop where
 bel:Below w9.heap.size w9 W
 map:b0=true→w9.heap.size≤g.1∧MapAt W g.1 (euz g b5 b10)
 rt:b4=true→w9.heap.size≤g.2.1∧W.heap[g.2.1]? =some (.cells (ddz 0) 131 (0,0))
 tr:b9=true→w9.heap.size≤g.2.2.1∧W.heap[g.2.2.1]? =some (.cells (ddz 1) 131 (0,0))
 ne:b4=true→b9=true→g.2.1≠g.2.2.1
section
variable {w9 W W':World} {g:Nat×Nat×Nat×Bool} {b0 b4 b5 b9 b10:Bool}
theorem BareS.start (w9:World):BareS w9 (0,0,0,true) false false false false false w9.drew:=⟨(Below.refl _ _).drew,(λh=>by cases h),(λh=>by cases h),(λh=>by cases h),(λh=>by cases h)⟩
theorem BareS.below (h:BareS w9 g b0 b4 b5 b9 b10 W) (hb:Below W.heap.size W W'):BareS w9 g b0 b4 b5 b9 b10 W':=
 ⟨h.bel.trans (hb.mono h.bel.size),λk=>⟨(h.map k).1,(h.map k).2.kept (Below.only hb (λ_=>False)) λf=>f⟩,λk=>⟨(h.rt k).1,(hb.block _ (block_lt (h.rt k).2)).trans (h.rt k).2⟩,λk=>⟨(h.tr k).1,(hb.block _ (block_lt (h.tr k).2)).trans (h.tr k).2⟩,h.ne⟩
theorem BareS.made (h:BareS w9 g false b4 false b9 false W):BareS w9 (W.heap.size,g.2) true b4 false b9 false (W.alloc (.map #[] 0)):=by
 have h':=h.below (W':=W.alloc (.map #[] 0)) ((Below.refl W.heap.size W).alloc (Nat.le_refl _) _)
 exact⟨h'.bel,λ_=>⟨h.bel.size,⟨#[],0,heap_alloc_new W _,rfl⟩⟩,h'.rt,h'.tr,h'.ne⟩
theorem BareS.root (h:BareS w9 g b0 false false b9 b10 W):BareS w9 (g.1,W.heap.size,g.2.2) b0 true false b9 b10 (W.alloc (.cells (ddz 0) 131)):=by
 have h':=h.below (W':=W.alloc (.cells (ddz 0) 131)) ((Below.refl W.heap.size W).alloc (Nat.le_refl _) _)
 exact⟨h'.bel,h'.map,λ_=>⟨h.bel.size,heap_alloc_new W _⟩,h'.tr,λ_ k e=>by have:=block_lt (h.tr k).2;simp only at e;omega⟩
theorem BareS.trash (h:BareS w9 g b0 b4 b5 false false W):BareS w9 (g.1,g.2.1,W.heap.size,g.2.2.2) b0 b4 b5 true false (W.alloc (.cells (ddz 1) 131)):=by
 have h':=h.below (W':=W.alloc (.cells (ddz 1) 131)) ((Below.refl W.heap.size W).alloc (Nat.le_refl _) _)
 exact⟨h'.bel,h'.map,h'.rt,λ_=>⟨h.bel.size,heap_alloc_new W _⟩,λk _ e=>by have:=block_lt (h.rt k).2;simp only at e;omega⟩
theorem eFz {W:World} {mb:Nat} {E:List (PI×Nat)} (h:MapAt W mb E) {b:Nat} {cs:Array Value} {t:TypeId} (hb:W.heap[b]? =some (.cells cs t (0,0))):b≠mb:=by
 obtain⟨es,c,hm,_⟩:=h
 intro e
 rw[e,hm]at hb
 cases hb
theorem BareS.only (h:BareS w9 g true b4 b5 b9 b10 W) (ho:Only (· =g.1) W W') {b5' b10':Bool} {z:Bool} (hm:MapAt W' g.1 (euz (g.1,g.2.1,g.2.2.1,z) b5' b10')):BareS w9 (g.1,g.2.1,g.2.2.1,z) true b4 b5' b9 b10' W':=by
 have hk:=h.map rfl
 refine⟨⟨ho.os.trans h.bel.os,ho.tape.trans h.bel.tape,ho.output.trans h.bel.output,Nat.le_trans h.bel.size ho.size,λi hi=> ?_⟩,λ_=>⟨hk.1,hm⟩,λk=>⟨(h.rt k).1,(ho.block _ (block_lt (h.rt k).2) (eFz hk.2 (h.rt k).2)).trans (h.rt k).2⟩,λk=>⟨(h.tr k).1,(ho.block _ (block_lt (h.tr k).2) (eFz hk.2 (h.tr k).2)).trans (h.tr k).2⟩,h.ne⟩
 refine(ho.block i (by have:=h.bel.size;omega) (λe=>by have:=hk.1;omega)).trans (h.bel.block i hi)
theorem BareS.putR (h:BareS w9 g true true false b9 b10 W):∃W',(Instr.mapUpdate 71 (.map (some g.1)) (idv 0 0) (.pointer (some ⟨g.2.1,0,none⟩))).run Tryz.prog W=.ok () W'∧BareS w9 (g.1,g.2.1,g.2.2.1, !b10) true true true b9 b10 W':=by
 obtain⟨W',h1,h2,h3,_⟩:=d6z (h.map rfl).2 0 0 g.2.1 (by cases b10<;>simp[euz,atM])
 refine⟨W',h1,h.only h3 ?_⟩
 cases b10<;>simpa[euz]using h2
theorem BareS.putT (h:BareS w9 g true b4 b5 true false W):∃W',(Instr.mapUpdate 71 (.map (some g.1)) (idv 0 1) (.pointer (some ⟨g.2.2.1,0,none⟩))).run Tryz.prog W=.ok () W'∧BareS w9 (g.1,g.2.1,g.2.2.1,b5) true b4 b5 true true W':=by
 obtain⟨W',h1,h2,h3,_⟩:=d6z (h.map rfl).2 0 1 g.2.2.1 (by cases b5<;>simp[euz,atM])
 refine⟨W',h1,h.only h3 ?_⟩
 cases b5<;>simpa[euz]using h2
end
theorem nfz {Q:Exit→Act→World→Prop} {base:Array Value} {dd:List Deferred} {ops:Array Oper} (hops:Tryz.f158.body.bind (alz 1)=some ops) (w9:World) (hsz:base.size=11) (hQ:∀(g:Nat×Nat×Nat×Bool) (W:World),BareS w9 g true true true true true W→Q .normal ⟨abz base ((λg:Nat×Nat×Nat×Bool=>([(some 1,.map (some g.1)),(some 2,.agg #[iV 0,iV 0]),(some 3,.agg #[iV 0,iV 0]),(some 4,.agg #[.pointer none,.string ⟨#[]⟩,iV 0,iV 0,.bool true,.slice none 0 0]),(some 5,pO g.2.1),(none,undef),(some 6,.agg #[iV 0,iV 1]),(some 7,.agg #[iV 0,iV 1]),(some 8,.agg #[.pointer none,.string ⟨#[]⟩,iV 0,iV 1,.bool true,.slice none 0 0]),(some 9,pO g.2.2.1),(none,undef),(some 10,.map (some g.1)),(some 0,.map (some g.1))]:List (Option Tmp×Value))) g),dd⟩ W):
  (Code.region 1 ops true).wp Tryz.prog Q ⟨base,dd⟩ w9:=by
 have hmix:=hmx
 have h2:=(show Tryz.f158.body.bind (alz 1)=some _ from rfl).symm.trans hops
 obtain rfl:=Option.some.inj h2
 clear h2 hops
 obtain⟨LL,hLe⟩:∃LL:Nat×Nat×Nat×Bool→List (Option Tmp×Value),LL=(λg:Nat×Nat×Nat×Bool=>([(some 1,.map (some g.1)),(some 2,.agg #[iV 0,iV 0]),(some 3,.agg #[iV 0,iV 0]),(some 4,.agg #[.pointer none,.string ⟨#[]⟩,iV 0,iV 0,.bool true,.slice none 0 0]),(some 5,pO g.2.1),(none,undef),(some 6,.agg #[iV 0,iV 1]),(some 7,.agg #[iV 0,iV 1]),(some 8,.agg #[.pointer none,.string ⟨#[]⟩,iV 0,iV 1,.bool true,.slice none 0 0]),(some 9,pO g.2.2.1),(none,undef),(some 10,.map (some g.1)),(some 0,.map (some g.1))]:List (Option Tmp×Value))):=⟨_,rfl⟩
 have vv:=λg=>aV (congrFun hLe g)
 simp only[AV,Nat.zero_add,Nat.reduceAdd,and_true,forall_and]at vv
 obtain⟨vv0,vv1,vv2,vv3,vv4,vv5,vv6,vv7,vv8,vv9,vv10,vv11,vv12⟩:=vv
 refine axz hmix (by kernel_rfl) 11 hsz (by kernel_rfl) (0,0,0,true) LL (λg=>by rw[hLe];rfl) (λg b W=>BareS w9 g (b 0) (b 4) (b 5) (b 9) (b 10) W) ?_ ?_ ?_
 ·exact BareS.start w9
 ·intro g b W io Oo a hS hcl ho hb hd ev kp yl
  have Vv:=aV (congrFun hLe g);have Ee:=aE (congrFun hLe g) rfl ev
  simp only[AV,AE,Nat.zero_add,Nat.reduceAdd,and_true]at Vv Ee
  match io with
  |3|8|11|12=>simp only[qq]at ho;subst ho;have hd:=aD hd;simp only[AD,and_true]at hd;refine a9z rfl nofun ?_ ⟨g,λ_ _=>rfl,rfl,by simpa[did]using hS⟩;simp only[Vv];simp[execOp,go_sem,Ee,hd]
  |0=>
   simp only[qq]at ho;subst ho
   refine a9z rfl nofun (v:=.map (some W.heap.size)) (w':=W.alloc (.map #[] 0)) ?_ ⟨(W.heap.size,g.2), ?_,(vv0 (W.heap.size,g.2)).symm, ?_⟩
   ·simp[execOp,go_sem,Instr.makeMap]
   ·intro j hj
    match j,hj with
    |0,h=>exact absurd (h.symm.trans hb) (by decide)
    |11,h=>exact absurd ((hcl 11 _ rfl (h) ⟨0,.data⟩ (by simp) rfl).symm.trans hb) (by decide)
    |12,h=>exact absurd ((hcl 11 _ rfl (hcl 12 _ rfl (h) ⟨11,.data⟩ (by simp) rfl) ⟨0,.data⟩ (by simp) rfl).symm.trans hb) (by decide)
    |j+13,_=>subst hLe;rfl
    |1,_|2,_|3,_|4,_|5,_|6,_|7,_|8,_|9,_|10,_=>subst hLe;rfl
   ·have h5:b 5=false:=by cases h:b 5;rfl;rw[hcl 5 _ rfl h ⟨0,.data⟩ (by simp) rfl]at hb;cases hb
    have h10:b 10=false:=by cases h:b 10;rfl;rw[hcl 10 _ rfl h ⟨0,.data⟩ (by simp) rfl]at hb;cases hb
    rw[hb,h5,h10]at hS
    have:=hS.made
    simpa[did,h5,h10]using this
  |1=>
   simp only[qq]at ho;subst ho
   refine aLz rfl nofun (f:=42) (args:= #[]) ?_ ?_
   ·simp[go_sem]
   ·exact(Cd.root_any W).mono λe W' h=>⟨_,h.1,g,λ_ _=>rfl,(vv1 g).symm,by simpa[did]using hS.below h.2⟩
  |2=>
   simp only[qq]at ho;subst ho
   refine aLz rfl nofun (f:=42) (args:= #[]) ?_ ?_
   ·simp[go_sem]
   ·exact(Cd.root_any W).mono λe W' h=>⟨_,h.1,g,λ_ _=>rfl,(vv2 g).symm,by simpa[did]using hS.below h.2⟩
  |4=>
   simp only[qq]at ho;subst ho;have e4:=eD ev hd 3 4 (vv3 g)
   refine a9z rfl nofun (v:=pO W.heap.size) (w':=W.alloc (.cells #[.pointer none,.string ⟨#[]⟩,iV 0,iV 0,.bool true,.slice none 0 0] 131)) ?_ ⟨(g.1,W.heap.size,g.2.2), ?_,(vv4 (g.1,W.heap.size,g.2.2)).symm, ?_⟩
   ·simp[execOp,go_sem,e4]
   ·intro j hj
    match j,hj with
    |4,h=>exact absurd (h.symm.trans hb) (by decide)
    |j+13,_=>subst hLe;rfl
    |0,_|1,_|2,_|3,_|5,_|6,_|7,_|8,_|9,_|10,_|11,_|12,_=>subst hLe;rfl
   ·have h5:b 5=false:=by cases h:b 5;rfl;rw[hcl 5 _ rfl h ⟨4,.data⟩ (by simp) rfl]at hb;cases hb
    rw[hb,h5]at hS
    have:=hS.root
    simpa[did,h5,ddz]using this
  |5=>
   simp only[qq]at ho;subst ho;have p0:=hD hd 0;have e1:=(ev 0 1 rfl p0).trans (vv0 g);have e2:=eD ev hd 1 2 (vv1 g);have p4:=hD hd 4;have e5:=(ev 4 5 rfl p4).trans (vv4 g);rw[hb,p0,p4]at hS
   obtain⟨W',hr,hP⟩:=hS.putR
   refine blz rfl nofun (w':=W') ?_ ⟨(g.1,g.2.1,g.2.2.1, !b 10), ?_,(vv5 _).symm, ?_⟩
   ·simp[execOp,go_sem,e1,e2,e5,hr]
   ·intro j hj
    match j,hj with
    |j+13,_=>subst hLe;rfl
    |0,_|1,_|2,_|3,_|4,_|5,_|6,_|7,_|8,_|9,_|10,_|11,_|12,_=>subst hLe;rfl
   ·simpa[did,p0,p4]using hP
  |6=>
   simp only[qq]at ho;subst ho
   refine aLz rfl nofun (f:=144) (args:= #[]) ?_ ?_
   ·simp[go_sem]
   ·exact(Cd.trash_any W).mono λe W' h=>⟨_,h.1,g,λ_ _=>rfl,(vv6 g).symm,by simpa[did]using hS.below h.2⟩
  |7=>
   simp only[qq]at ho;subst ho
   refine aLz rfl nofun (f:=144) (args:= #[]) ?_ ?_
   ·simp[go_sem]
   ·exact(Cd.trash_any W).mono λe W' h=>⟨_,h.1,g,λ_ _=>rfl,(vv7 g).symm,by simpa[did]using hS.below h.2⟩
  |9=>
   simp only[qq]at ho;subst ho;have e8:=eD ev hd 8 8 (vv8 g)
   refine a9z rfl nofun (v:=pO W.heap.size) (w':=W.alloc (.cells #[.pointer none,.string ⟨#[]⟩,iV 0,iV 1,.bool true,.slice none 0 0] 131)) ?_ ⟨(g.1,g.2.1,W.heap.size,g.2.2.2), ?_,(vv9 (g.1,g.2.1,W.heap.size,g.2.2.2)).symm, ?_⟩
   ·simp[execOp,go_sem,e8]
   ·intro j hj
    match j,hj with
    |9,h=>exact absurd (h.symm.trans hb) (by decide)
    |j+13,_=>subst hLe;rfl
    |0,_|1,_|2,_|3,_|4,_|5,_|6,_|7,_|8,_|10,_|11,_|12,_=>subst hLe;rfl
   ·have h10:b 10=false:=by cases h:b 10;rfl;rw[hcl 10 _ rfl h ⟨9,.data⟩ (by simp) rfl]at hb;cases hb
    rw[hb,h10]at hS
    have:=hS.trash
    simpa[did,h10,ddz]using this
  |10=>
   simp only[qq]at ho;subst ho;have p0:=hD hd 0;have e1:=(ev 0 1 rfl p0).trans (vv0 g);have e6:=eD ev hd 6 6 (vv6 g);have p9:=hD hd 9;have e9:=(ev 9 9 rfl p9).trans (vv9 g);rw[hb,p0,p9]at hS
   obtain⟨W',hr,hP⟩:=hS.putT
   refine blz rfl nofun (w':=W') ?_ ⟨(g.1,g.2.1,g.2.2.1,b 5), ?_,(vv10 _).symm, ?_⟩
   ·simp[execOp,go_sem,e1,e6,e9,hr]
   ·intro j hj
    match j,hj with
    |j+13,_=>subst hLe;rfl
    |0,_|1,_|2,_|3,_|4,_|5,_|6,_|7,_|8,_|9,_|10,_|11,_|12,_=>subst hLe;rfl
   ·simpa[did,p0,p9]using hP
  |k+13=>simp at ho
 ·intro g b W hS hall
  have a0:b 0=true:=hall 0 (by decide)
  have a4:b 4=true:=hall 4 (by decide)
  have a5:b 5=true:=hall 5 (by decide)
  have a9:b 9=true:=hall 9 (by decide)
  have a10:b 10=true:=hall 10 (by decide)
  rw[a0,a4,a5,a9,a10]at hS
  subst hLe
  exact hQ g W hS
structure o6z (w W:World) (mb rb tb:Nat) (B:List PI):Prop where
 bel:Below w.heap.size w W
 hmb:w.heap.size≤mb
 hrb:w.heap.size≤rb
 htb:w.heap.size≤tb
 ne:rb≠tb
 bb:B=[(0,0),(0,1)]∨B=[(0,1),(0,0)]
 map:MapAt W mb (B.map λq=>(q,if q=(0,0)then rb else tb))
 rt:W.heap[rb]? =some (.cells (ddz 0) 131 (0,0))
 tr:W.heap[tb]? =some (.cells (ddz 1) 131 (0,0))
theorem kMz (w:World):Calls Tryz.prog 158 #[] w λe W=>∃mb rb tb B,e=.returned (.map (some mb))∧o6z w W mb rb tb B:=by
 go_enter Tryz.func158,Tryz.ntmps158
 go_wp2_with fail
 refine nfz (by kernel_rfl) w rfl ?_
 intro g W hS
 have HS:Hid (∃B,o6z w W g.1 g.2.1 g.2.2.1 B):=by
  obtain⟨h1,h2⟩:=hS.map rfl
  cases hz:g.2.2.2 with
  |true=>exact⟨[(0,0),(0,1)],hS.bel,h1,(hS.rt rfl).1,(hS.tr rfl).1,hS.ne rfl rfl,.inl rfl,by simpa[euz,hz]using h2,(hS.rt rfl).2,(hS.tr rfl).2⟩
  |false=>exact⟨[(0,1),(0,0)],hS.bel,h1,(hS.rt rfl).1,(hS.tr rfl).1,hS.ne rfl rfl,.inr rfl,by simpa[euz,hz]using h2,(hS.rt rfl).2,(hS.tr rfl).2⟩
 clear hS
 simp only[abz,sA,sB,sC]
 go_wp2_with fail
 go_ret
 obtain⟨B,hB⟩:=HS.out
 exact⟨g.1,g.2.1,g.2.2.1,B,rfl,hB⟩
end Go.Proofs.YthhakekbffembaaGreatDoor.Ck.Y

namespace Go.Proofs.YthhakekbffembaaGreatDoor.Ck.Y
open Go.RowKit Go.Maps Go.Lib
def cTz (f:PI→Nat) (q:PI) (v:Nat):PI→Nat:=λr=>if r=q then v else f r
def exz (f:PI→Bool) (q:PI) (v:Bool):PI→Bool:=λr=>if r=q then v else f r
theorem cZz (f:PI→Nat) (q:PI) (v:Nat):cTz f q v q=v:=if_pos rfl
theorem cbz (f:PI→Nat) {q r:PI} (v:Nat) (h:r≠q):cTz f q v r=f r:=if_neg h
theorem g6z (f:PI→Bool) (q:PI) (v:Bool):exz f q v q=v:=if_pos rfl
theorem c9z (f:PI→Bool) {q r:PI} (v:Bool) (h:r≠q):exz f q v r=f r:=if_neg h
section
variable {F:Nat→Prop} {w W:World} {U:List PI} {bl:PI→Nat} {kv:PI→Value} {dr:PI→Bool} {pf pk:PI→PL}
theorem ObjsM.more {q:PI} {nb:Nat} {dv:Bool} (h:ObjsM F W U bl kv dr pf pk) (hq:q∉U) (hnb:¬F nb) (hblk:W.heap[nb]? =some (.cells #[.pointer none,.string ⟨#[]⟩,.int .i64 q.1,.int .i64 q.2,.bool dv,.slice none 0 0] 131 (0,0))) (hpf:pf q=none) (hpk:pk q=none) (hno:∀r∈U,∀p nm,pf r=some (p,nm)→p≠q) (hnk:∀r∈U,∀nm,pk r≠some (q,nm)) (hlen:U.length+1≤900):
  ObjsM (λb=>F b∨b=nb) W (q::U) (cTz bl q nb) (dIz kv q (.slice none 0 0)) (exz dr q dv) pf pk:=by
 have hne:∀r∈U,r≠q:=λr hr e=>hq (by rw[← e];exact hr)
 have hb:∀r∈U,cTz bl q nb r=bl r:=λr hr=>cbz _ _ (hne r hr)
 have hv:∀r∈U,dIz kv q (.slice none 0 0) r=kv r:=λr hr=>crz _ _ (hne r hr)
 refine⟨λr hr r' hr' e=> ?_,λr hr=> ?_,λr hr=> ?_,λr hr r' hr' hrr g hg=> ?_,λr hr=> ?_,by simp only[List.length_cons];omega⟩
 ·rcases List.mem_cons.1 hr with e1|h1<;>rcases List.mem_cons.1 hr' with e2|h2
  ·rw[e1,e2]
  ·rw[e1,cZz,hb r' h2]at e
   exact absurd (by rw[e];exact(h.own r' h2).1) hnb
  ·rw[e2,cZz,hb r h1]at e
   exact absurd (by rw[← e];exact(h.own r h1).1) hnb
  ·rw[hb r h1,hb r' h2]at e
   exact h.inj r h1 r' h2 e
 ·rcases List.mem_cons.1 hr with rfl|hr
  ·rw[cZz,hblk]
   unfold ioz
   rw[hpf,bQz,g6z]
   rfl
  ·rw[hb r hr,h.obj r hr]
   unfold ioz
   rw[hv r hr,c9z _ _ (hne r hr)]
   cases hp:pf r with
   |none=>rfl
   |some x=>
    obtain⟨p,nm⟩:=x
    simp only[plA]
    rw[cbz _ _ (hno r hr p nm hp)]
 ·rcases List.mem_cons.1 hr with rfl|hr
  ·refine⟨[],⟨List.Pairwise.nil,λx=>⟨λhx=>by simp at hx,λ⟨hx,nm,e⟩=> ?_⟩⟩,by rw[bQz];exact RowP.nil _ _ _⟩
   rcases List.mem_cons.1 hx with rfl|hx
   ·rw[hpk]at e;cases e
   ·exact absurd e (hnk x hx nm)
  ·obtain⟨m,h1,h2⟩:=h.kid r hr
   refine⟨m,⟨h1.rise,λx=> ?_⟩, ?_⟩
   ·rw[h1.mem]
    constructor
    ·rintro⟨hx,e⟩;exact⟨List.mem_cons_of_mem _ hx,e⟩
    ·rintro⟨hx,nm,e⟩
     rcases List.mem_cons.1 hx with rfl|hx
     ·rw[hpk]at e;cases e
     ·exact⟨hx,nm,e⟩
   ·rw[hv r hr]
    have:m.map (cTz bl q nb)=m.map bl:=List.map_congr_left λx hx=>hb x ((h1.mem x).1 hx).1
    rw[this]
    exact h2
 ·rcases List.mem_cons.1 hr with rfl|hr
  ·rw[bQz]at hg;cases hg
  ·rcases List.mem_cons.1 hr' with rfl|hr'
   ·rw[bQz];intro e;cases e
   ·rw[hv r hr]at hg
    rw[hv r' hr']
    exact h.apart r hr r' hr' hrr g hg
 ·rcases List.mem_cons.1 hr with rfl|hr
  ·refine⟨.inr (cZz _ _ _),λg hg=> ?_⟩
   rw[bQz]at hg;cases hg
  ·rw[hb r hr,hv r hr]
   exact⟨.inl (h.own r hr).1,λg hg=>.inl ((h.own r hr).2 g hg)⟩
end
variable {F:Nat→Prop} {mb:Nat} {B U:List PI} {bl:PI→Nat} {dr:PI→Bool} {w:World} {gt:VB} {l:List OG}
theorem TreeM.more {W:World} {kv:PI→Value} {T:List OB} {q:PI} {nb:Nat} {dv:Bool} (h:TreeM F W mb B U bl kv dr T) (hq:q∉U) (hnb:¬F nb) (hblk:W.heap[nb]? =some (.cells #[.pointer none,.string ⟨#[]⟩,.int .i64 q.1,.int .i64 q.2,.bool dv,.slice none 0 0] 131 (0,0))) (hlen:U.length+1≤900):
  TreeM (λb=>F b∨b=nb) W mb B (q::U) (cTz bl q nb) (dIz kv q (.slice none 0 0)) (exz dr q dv) T:=by
 have hne:∀r∈U,r≠q:=λr hr e=>hq (by rw[← e];exact hr)
 have hmbne:nb≠mb:=λe=>hnb (by rw[e];exact h.fmb)
 have hpf:amz T q=none:=by
  cases hp:amz T q with
  |none=>rfl
  |some x=>
   obtain⟨p,nm⟩:=x
   obtain⟨k,o,_,ho,e,_⟩:=caz hp
   exact absurd (by rw[← e];exact h.ids o (List.mem_of_getElem? ho)) hq
 have hpar:∀r∈U,∀p nm,amz T r=some (p,nm)→p≠q:=λr hr p nm hp=>hne p (h.par r hr p nm hp)
 refine⟨(h.objs.more hq (λhx=>hnb hx.1) hblk hpf hpf hpar (λr hr nm hp=>hpar r hr q nm hp rfl) hlen).mono λb hb=> ?_, ?_,.inl h.fmb,h.bb,⟨List.mem_cons_of_mem _ h.rt.1,List.mem_cons_of_mem _ h.rt.2⟩,λo ho=>List.mem_cons_of_mem _ (h.ids o ho),⟨?_, ?_,λo ho=> ?_⟩,h.wf⟩
 ·rcases hb with hb|hb
  ·exact⟨.inl hb.1,hb.2⟩
  ·exact⟨.inr hb,by rw[hb];exact hmbne⟩
 ·have:b8z B (cTz bl q nb) T=b8z B bl T:=by
   unfold b8z
   refine List.map_congr_left λx hx=> ?_
   have hxU:x∈U:=h.inU ((h.mem x).1 hx)
   rw[cbz _ _ (hne x hxU)]
  rw[this]
  exact h.map
 ·rw[c9z _ _ (hne _ h.rt.1)];exact h.drs.1
 ·rw[c9z _ _ (hne _ h.rt.2)];exact h.drs.2.1
 ·rw[c9z _ _ (hne _ (h.ids o ho))];exact h.drs.2.2 o ho
theorem SM.names {FO:Nat→Prop} {gt:Nat} {v:Value} {L:List SR} {U':List PI} {bl':PI→Nat} {dr':PI→Bool} (h:SM F FO w gt v L U bl dr) (hu:∀q∈U,q∈U') (hb:∀q∈U,bl' q=bl q) (hd:∀q∈U,dr' q=dr q):SM F FO w gt v L U' bl' dr':=by
 refine⟨h.row,λe he=>⟨(h.st e he).blk,λk=> ?_,(h.st e he).mvat⟩,h.nd,h.rise,λe he=>⟨(h.ok e he).1,λk=> ?_⟩,h.len,h.sub,h.gtF,h.rowF,h.stF,h.low⟩
 ·have:=(h.st e he).mkat k
  unfold ewz at this⊢
  rw[hb _ ((h.ok e he).2 k).2.2.2.1]
  exact this
 ·obtain⟨e1,e2,e3,e4,e5⟩:=(h.ok e he).2 k
  exact⟨e1,e2,e3,hu _ e4,by rw[hd _ e4];exact e5⟩
theorem SM.other {FO F' FO':Nat→Prop} {gt:Nat} {v:Value} {L:List SR} (h:SM F FO w gt v L U bl dr) (hF:∀b,F b→F' b) (hl:∀b,F' b→b<w.heap.size) (hs:∀b,FO' b→F' b) (hn:∀b,F b→¬FO b→¬FO' b):SM F' FO' w gt v L U bl dr:=
 ⟨h.row,h.st,h.nd,h.rise,h.ok,h.len,hs,⟨hF _ h.gtF.1,hn _ h.gtF.1 h.gtF.2⟩,λg hg=>⟨hF _ (h.rowF g hg).1,hn _ (h.rowF g hg).1 (h.rowF g hg).2⟩,λe he=>⟨hF _ (h.stF e he).1,hn _ (h.stF e he).1 (h.stF e he).2.1,hF _ (h.stF e he).2.2.1,hn _ (h.stF e he).2.2.1 (h.stF e he).2.2.2⟩,hl⟩
structure TSn (F:Nat→Prop) (w:World) (gt:VB) (l:List OG) (U:List PI) (bl:PI→Nat) (dr:PI→Bool):Prop where
 out:∃FO kv L v,SM F FO w gt.b v L U bl dr∧L.map (·.o)=l∧w.heap[gt.b]? =some (.cells #[.map none,v,.int .i64 0,.int .i64 0,gt.fv,gt.cn] 77 (0,0))∧ObjsM FO w U bl kv dr (amz []) (amz [])
 uid:∀q∈U,¬q.1=0∧∃o∈l,q=(o.t,o.n)
 ul:U.length≤l.length
theorem bNz (q:PI):amz [] q=none:=rfl
theorem TSn.lay {W Wf:World} {rb tb:Nat} (h:TSn F w gt l U bl dr) (hB:o6z w W mb rb tb B) (hof:Only (· =gt.b) W Wf) (hgf:∀v,w.heap[gt.b]? =some (.cells #[.map none,v,.int .i64 0,.int .i64 0,gt.fv,gt.cn] 77 (0,0))→Wf.heap[gt.b]? =some (.cells #[.map (some mb),v,.int .i64 0,.int .i64 0,gt.fv,gt.cn] 77 (0,0))):
  (∃U' bl' dr',TSm (ajz F w Wf) Wf gt l 0 [] 0 mb B U' bl' dr')∧Only F w Wf:=by
 obtain⟨FO,kv,L,v,hS,hL,hg,hO⟩:=h.out
 have hsW:=hB.bel.size
 have hsf:=hof.size
 have hgW:=(hB.bel.block _ (block_lt hg)).trans hg
 have hOw:Only F w Wf:=(Below.only hB.bel F).next (atz hof λb hb=>by rw[hb];exact hS.gtF.1)
 have hSf:SM F FO Wf gt.b v L U bl dr:=(hS.kept (Below.only hB.bel (λ_=>False)) (λb f=>f.elim) ⟨_,hg⟩).kept hof (λb hb=>.inl hb) ⟨_,hgW⟩
 have hnew:∀b,w.heap.size≤b→¬FO b:=λb hb hF=>by have:=hS.low b (hS.sub b hF);omega
 have hgtl:=hS.low gt.b hS.gtF.1
 have kept:∀{b:Nat} {o:Obj},w.heap.size≤b→W.heap[b]? =some o→Wf.heap[b]? =some o:=λ{b o} hb hh=>(hof.block _ (block_lt hh) (λe=>by omega)).trans hh
 have hrt:=kept hB.hrb hB.rt
 have htr:=kept hB.htb hB.tr
 have hOf:ObjsM FO Wf U bl kv dr (amz []) (amz []):=(hO.below hB.bel).kept hof λb hb e=>hS.gtF.2 (by rw[← e];exact hb)
 have hl8:=hS.len
 have hll:L.length=l.length:=by rw[← hL,List.length_map]
 have hul:=h.ul
 have hq0:(0,0)∉U:=λhh=>(h.uid _ hh).1 rfl
 have hO1:=hOf.more (dv:=true) hq0 (hnew rb hB.hrb) hrt (bNz _) (bNz _) (λr _ p nm e=>by cases e) (λr _ nm e=>by cases e) (by omega)
 have hq1:(0,1)∉(0,0)::U:=λhh=>by
  rcases List.mem_cons.1 hh with e|e
  ·cases e
  ·exact(h.uid _ e).1 rfl
 have hO2:=hO1.more (dv:=true) hq1 (λhh=>hh.elim (hnew tb hB.htb) λe=>hB.ne e.symm) htr (bNz _) (bNz _) (λr _ p nm e=>by cases e) (λr _ nm e=>by cases e) (by simp only[List.length_cons];omega)
 have hmapf:MapAt Wf mb (B.map λq=>(q,if q=(0,0)then rb else tb)):=hB.map.kept hof λe=>by have:=hB.hmb;omega
 have hrm:rb≠mb:=eFz hB.map hB.rt
 have htm:tb≠mb:=eFz hB.map hB.tr
 have hUne:∀q∈U,q≠(0,0)∧q≠(0,1):=λq hq=>⟨λe=>(h.uid q hq).1 (by rw[e]),λe=>(h.uid q hq).1 (by rw[e])⟩
 have hbl:∀q∈U,cTz (cTz bl (0,0) rb) (0,1) tb q=bl q:=λq hq=>by rw[cbz _ _ (hUne q hq).2,cbz _ _ (hUne q hq).1]
 have hdr:∀q∈U,exz (exz dr (0,0) true) (0,1) true q=dr q:=λq hq=>by rw[c9z _ _ (hUne q hq).2,c9z _ _ (hUne q hq).1]
 have hrl:=block_lt hrt
 have htl:=block_lt htr
 have hml:=hmapf.lt
 have hFl:∀b,F b→b<w.heap.size:=hS.low
 have hS':=(hSf.names (U':=(0,1)::(0,0)::U) (λq hq=>List.mem_cons_of_mem _ (List.mem_cons_of_mem _ hq)) hbl hdr).other (F':=ajz F w Wf) (FO':=λb=>FO b∨b=rb∨b=tb∨b=mb) (λb hb=>.inl hb)
  (λb hb=>hb.elim (λhb=>by have:=hFl b hb;omega) λe=>e.2)
  (λb hb=>by
   rcases hb with hb|hb|hb|hb
   ·exact .inl (hS.sub b hb)
   ·exact .inr ⟨by rw[hb];exact hB.hrb,by rw[hb];exact hrl⟩
   ·exact .inr ⟨by rw[hb];exact hB.htb,by rw[hb];exact htl⟩
   ·exact .inr ⟨by rw[hb];exact hB.hmb,by rw[hb];exact hml⟩)
  (λb hb hn hh=>by
   have:=hFl b hb
   have h1:=hB.hrb
   have h2:=hB.htb
   have h3:=hB.hmb
   rcases hh with hh|hh|hh|hh
   ·exact hn hh
   ·omega
   ·omega
   ·omega)
 refine⟨⟨(0,1)::(0,0)::U,cTz (cTz bl (0,0) rb) (0,1) tb,exz (exz dr (0,0) true) (0,1) true,⟨_,dIz (dIz kv (0,0) (.slice none 0 0)) (0,1) (.slice none 0 0),L,v,hS',hL,by simpa using hgf v hg,.nil, ?_⟩,Nat.zero_le _,Nat.le_refl _,λq hq=> ?_,by simp only[List.length_cons];omega⟩,hOw⟩
 ·refine⟨hO2.mono λb hb=> ?_, ?_,.inr (.inr (.inr rfl)),hB.bb,⟨by simp,by simp⟩,λo ho=>by simp at ho,⟨?_, ?_,λo ho=>by simp at ho⟩,WfT.nil⟩
  ·rcases hb with(hb|hb)|hb
   ·refine⟨.inl hb,λe=> ?_⟩
    have:=hFl b (hS.sub b hb)
    have:=hB.hmb
    omega
   ·exact⟨.inr (.inl hb),by rw[hb];exact hrm⟩
   ·exact⟨.inr (.inr (.inl hb)),by rw[hb];exact htm⟩
  ·have:b8z B (cTz (cTz bl (0,0) rb) (0,1) tb) []=B.map λq=>(q,if q=(0,0)then rb else tb):=by
    unfold b8z
    rcases hB.bb with e|e<;>rw[e]<;>simp[cTz]
   rw[this]
   exact hmapf
  ·simp[exz]
  ·simp[exz]
 ·rcases List.mem_cons.1 hq with e|hq
  ·rw[e];exact .inl rfl
  ·rcases List.mem_cons.1 hq with e|hq
   ·rw[e];exact .inl rfl
   ·exact .inr (h.uid q hq).2
theorem imz {U0:List PI} {bl0:PI→Nat} {dr0:PI→Bool} (h:TSn F w gt l U0 bl0 dr0):
  Calls Tryz.prog 118 #[.pointer (some ⟨gt.b,0,none⟩)] w λe w'=>e=.returned (.tuple #[])∧(∃mb B U bl dr T' s',TSm (ajz F w w') w' gt l l.length T' s' mb B U bl dr)∧Only F w w':=by
 have hlow:∀b,F b→b<w.heap.size:=by obtain⟨FO,kv,L,v,hS,_⟩:=h.out;exact hS.low
 have g0:w.cell? ⟨gt.b,0,none⟩=some (.map none):=by obtain⟨FO,kv,L,v,hS,_,hg,_⟩:=h.out;exact cellOf hg 0
 have hcall:Calls Tryz.prog 158 #[] w λe W=>∃mb,e=.returned (.map (some mb))∧W.cell? ⟨gt.b,0,none⟩=some (.map none)∧W.frozen? ⟨gt.b,0,none⟩=false∧Hid (∃B U bl dr,TSm (ajz F w (W.setCell ⟨gt.b,0,none⟩ (.map (some mb)))) (W.setCell ⟨gt.b,0,none⟩ (.map (some mb))) gt l 0 [] 0 mb B U bl dr∧Only F w (W.setCell ⟨gt.b,0,none⟩ (.map (some mb)))):=by
  refine(kMz w).mono ?_
  rintro e W ⟨mb,rb,tb,B,rfl,hB⟩
  obtain⟨FO,kv,L,v,hS,hL,hg,hO⟩:=h.out
  have hgW:=(hB.bel.block _ (block_lt hg)).trans hg
  refine⟨mb,rfl,cellOf hgW 0,aez hgW 0, ?_⟩
  obtain⟨⟨U',bl',dr',hT⟩,hO'⟩:=h.lay hB (Only.setCell (S:=(· =gt.b)) W ⟨gt.b,0,none⟩ (.map (some mb)) rfl) (λv' hg'=>by
   have hgW':=(hB.bel.block _ (block_lt hg')).trans hg'
   exact a7z (k:=0) hgW' (.map (some mb)))
  exact⟨B,U',bl',dr',hT,hO'⟩
 have HH:Hid (True∧∀b,F b→b<w.heap.size):=⟨trivial,hlow⟩
 have hE:=fpz w
 clear h hlow
 go_enter Tryz.func118,Tryz.ntmps118
 go_wp2_with (go_at_call 158;refine hcall.mono ?_;rintro e W0 ⟨mb,rfl,k0,f0,HT⟩;clear hcall g0 hE)
 obtain⟨B,U,bl,dr,HT2⟩:∃B U bl dr,Hid (TSm (ajz F w (W0.setCell ⟨gt.b,0,none⟩ (.map (some mb)))) (W0.setCell ⟨gt.b,0,none⟩ (.map (some mb))) gt l 0 [] 0 mb B U bl dr∧Only F w (W0.setCell ⟨gt.b,0,none⟩ (.map (some mb)))):=by
  obtain⟨B,U,bl,dr,h1⟩:=HT.out
  exact⟨B,U,bl,dr,h1⟩
 clear HT k0 f0
 generalize W0.setCell ⟨gt.b,0,none⟩ (.map (some mb))=W1 at HT2⊢
 go_loopw [11] (λ_ wr=>Hid (∃d T s,TSm (ajz F w wr) wr gt l d T s mb B U bl dr∧Only F w wr∧b6z gt.b wr=d)) (λ_ wr=>l.length-b6z gt.b wr)
 case atStart=>exact⟨0,[],0,HT2.out.1,HT2.out.2,by
  obtain⟨FO,kv,L,v,hS,_,hg,_⟩:=HT2.out.1.out
  unfold b6z
  rw[cellOf hg 2]
  simp⟩
 case round=>
  obtain⟨d,T,s,hT,hOw,hdw⟩:=hrel.out
  have hdl:=hT.dl
  obtain⟨FO,kv,L,v,hS,hL,hg,hD,hM⟩:=hT.out
  obtain⟨p,cp,rfl,hlc,hcm,hpp⟩:=hS.row.form
  have hlen:(L.map (·.sb)).length=l.length:=by rw[← hL,List.length_map,List.length_map]
  have hl8:l.length≤800:=by have:=hS.len;rw[← hL,List.length_map];exact this
  rw[hlen]at hg hlc hpp
  have g1:wr.cell? ⟨gt.b,1,none⟩=some (.slice p l.length cp):=cellOf hg 1
  have g2:wr.cell? ⟨gt.b,2,none⟩=some (.int .i64 (d:Nat)):=cellOf hg 2
  have HI:=a0z (agz hT (agz hOw hdw))
  clear hrel
  go_wp2_with fail
  refine gVz (by kernel_rfl) gt.b l.length cp d p _ rfl rfl g1 g2 ?_
  intro W hB
  simp only[abz,sA,sB,sC]
  have HB:=a0z hB
  by_cases hdd:d<l.length
  ·have hddI:decide ((d:Int)<(l.length:Int))=true:=decide_eq_true (by omega)
   rw[hddI]
   obtain⟨g9,rfl,hcell⟩:=hpp (by omega)
   obtain⟨e,he⟩:∃e,L[d]? =some e:=⟨_,List.getElem?_eq_getElem (by rw[← hL,List.length_map]at hdd;exact hdd)⟩
   have r0:wr.cell? ⟨g9,d,none⟩=some (.pointer (some ⟨e.sb,0,none⟩)):=hcell d e.sb (by rw[List.getElem?_map,he];rfl)
   obtain⟨T1,s1,hst⟩:=StepT.total T 0 e.o
   have hTW:=hT.below hB
   have hSW:=hS.kept (Below.only hB (λ_=>False)) (λb f=>f.elim) ⟨_,hg⟩
   have hMW:=hM.below hB
   have hgW:W.heap[gt.b]? =_:=(hB.block _ (block_lt hg)).trans hg
   have hFO:∀b,FO b→b<W.drew.heap.size:=λb hb=>hSW.low b (hSW.sub b hb)
   have hse:=hSW.stF e (List.mem_of_getElem? he)
   have hdrew:Below W.heap.size W W.drew:=⟨rfl,rfl,rfl,Nat.le_refl _,λ_ _=>rfl⟩
   have hrun:=jdz (w:=W.drew) (hMW.below hdrew) hFO (show W.drew.cell? ⟨gt.b,0,none⟩=some (.map (some mb))from cellOf hgW 0) (hSW.st e (List.mem_of_getElem? he)).drewr hse.2.1 hse.2.2.2 (hSW.ok_now hD he)
   have hrun':Calls Tryz.prog 159 #[.pointer (some ⟨e.sb,0,none⟩)] W.drew λx W'=>x=.returned (.bool (decide (s1=0)))∧Ran FO mb B U bl dr T e.o gt.b e.sb e.x W.drew W' (decide (s1=0)):=by
    refine hrun.mono ?_
    rintro x W' ⟨r,rfl,hR⟩
    obtain⟨T',fu,fn,hu,_⟩:=hR.out
    have:=((hu.1 0).unique hst).2
    have er:r=decide (s1=0):=by rw[← this];cases r<;>simp
    rw[← er]
    exact⟨rfl,hR⟩
   have c1:W.cell? ⟨gt.b,1,none⟩=some (.slice (some ⟨g9,0,none⟩) l.length cp):=cellOf hgW 1
   have c2:W.cell? ⟨gt.b,2,none⟩=some (.int .i64 (d:Nat)):=cellOf hgW 2
   have c3:W.cell? ⟨g9,d,none⟩=some (.pointer (some ⟨e.sb,0,none⟩)):=(hB.cell (p:=⟨g9,d,none⟩) (a4z r0)).trans r0
   have hsd:=hT.sd
   have HK:Hid (SM (ajz F w wr) FO W gt.b (.slice (some ⟨g9,0,none⟩) l.length cp) L U bl dr∧L.map (·.o)=l∧W.heap[gt.b]? =some (.cells #[.map (some mb),.slice (some ⟨g9,0,none⟩) l.length cp,.int .i64 (d:Nat),.int .i64 (s:Nat),gt.fv,gt.cn] 77 (0,0))∧DoneT bl U (L.take d) T s∧L[d]? =some e):=⟨by rw[hlen]at hSW;exact hSW,hL,hgW,hD,he⟩
   clear hT hS hg hD hM hlc hpp hcell r0 hTW hSW hMW hgW hFO hse hdrew hrun hlen hcm g1 g2 hB hst he
   go_wp2_with fail
   generalize hrr:decide (s1=0)=rr at hrun'
   refine hqz (by kernel_rfl) gt.b g9 l.length cp d e.sb rr (λW'=>Ran FO mb B U bl dr T e.o gt.b e.sb e.x W W' rr) _ rfl rfl hdd c1 c2 c3 (hrun'.mono λx W' hx=>⟨hx.1,⟨hx.2.out,⟨hx.2.only.os,hx.2.only.tape,hx.2.only.output,hx.2.only.size,hx.2.only.block⟩⟩⟩) ?_
   intro _ W3 hR
   have hg3:W3.heap[gt.b]? =some (.cells #[.map (some mb),.slice (some ⟨g9,0,none⟩) l.length cp,.int .i64 (d:Nat),.int .i64 (s:Nat),gt.fv,gt.cn] 77 (0,0)):=by
    have hse:=HK.out.1.st e (List.mem_of_getElem? HK.out.2.2.2.2)
    refine(hR.only.block _ (block_lt HK.out.2.2.1) (λhh=> ?_)).trans HK.out.2.2.1
    rcases hh with hh|hh|hh
    ·exact HK.out.1.gtF.2 hh
    ·exact aiz HK.out.2.2.1 hse.blk (by decide) hh
    ·exact aiz HK.out.2.2.1 (hse.mvat hh.2) (by decide) hh.1
   have k2:W3.cell? ⟨gt.b,2,none⟩=some (.int .i64 (d:Nat)):=cellOf hg3 2
   have k3:W3.cell? ⟨gt.b,3,none⟩=some (.int .i64 (s:Nat)):=cellOf hg3 3
   have f2:W3.frozen? ⟨gt.b,2,none⟩=false:=aez hg3 2
   have f3:W3.frozen? ⟨gt.b,3,none⟩=false:=aez hg3 3
   have fin:∀Wf,Only (· =gt.b) W3 Wf→Wf.heap[gt.b]? =some (.cells #[.map (some mb),.slice (some ⟨g9,0,none⟩) l.length cp,.int .i64 (d+1:Nat),.int .i64 ((if rr=true then s else s+1:Nat):Nat),gt.fv,gt.cn] 77 (0,0))→
     Hid (∃d T s,TSm (ajz F w Wf) Wf gt l d T s mb B U bl dr∧Only F w Wf∧b6z gt.b Wf=d)∧b6z gt.b Wf=d+1:=λWf hof hgf=>by
    obtain⟨⟨T',hT'⟩,hO'⟩:=hgz HK.out.1 HK.out.2.2.1 HK.out.2.2.2.1 HK.out.2.2.2.2 hR (by rw[HK.out.2.1];exact HI.out.1.uid) (by rw[HK.out.2.1];exact HI.out.1.ul) hof hgf
    rw[HK.out.2.1]at hT'
    have hdone:b6z gt.b Wf=d+1:=by unfold b6z;rw[cellOf hgf 2];simp
    have q1:=HI.out.2.1.size
    have q2:=HB.out.size
    have q3:=hR.only.size
    have q4:=hof.size
    have hOW:Only F w W:=HI.out.2.1.next (Below.only HB.out F)
    refine⟨⟨d+1,T',_,hT'.mono (λb hb=> ?_) (λb hb=> ?_), ?_,hdone⟩,hdone⟩
    ·rcases hb with(hb|hb)|hb
     ·exact .inl hb
     ·exact .inr ⟨hb.1,by omega⟩
     ·exact .inr ⟨by omega,hb.2⟩
    ·rcases hb with hb|hb
     ·have:=HH.out.2 b hb;omega
     ·exact hb.2
    ·refine hOW.trans hO' λi hi=> ?_
     rcases hi with hi|hi
     ·exact .inl hi
     ·exact .inr hi.1
   have HF:Hid (∀Wf,Only (· =gt.b) W3 Wf→Wf.heap[gt.b]? =some (.cells #[.map (some mb),.slice (some ⟨g9,0,none⟩) l.length cp,.int .i64 (d+1:Nat),.int .i64 ((if rr=true then s else s+1:Nat):Nat),gt.fv,gt.cn] 77 (0,0))→
     Hid (∃d T s,TSm (ajz F w Wf) Wf gt l d T s mb B U bl dr∧Only F w Wf∧b6z gt.b Wf=d)∧b6z gt.b Wf=d+1):=fin
   have HG:=a0z hg3
   clear fin hR hg3 HK hrun' c1 c2 c3
   simp only[abz,sA,sB,sC]
   have hdw:=HI.out.2.2
   cases rr with
   |true=>
    go_wp2_with fail
    go_roundw
    case rel=>
     refine(HF.out _ (Only.setCell (S:=(· =gt.b)) W3 ⟨gt.b,2,none⟩ _ rfl) ?_).1
     have:=a7z (k:=2) HG.out (.int .i64 ((d+1:Nat):Int))
     exact this
    case measure=>
     have:=(HF.out _ (Only.setCell (S:=(· =gt.b)) W3 ⟨gt.b,2,none⟩ (.int .i64 ((d:Int)+1)) rfl) (a7z (k:=2) HG.out (.int .i64 ((d+1:Nat):Int)))).2
     rw[this,hdw]
     omega
   |false=>
    have hne:¬(2:Nat)=3:=by decide
    go_wp2_with fail
    go_roundw
    case rel=>
     refine(HF.out _ ((Only.setCell (S:=(· =gt.b)) W3 ⟨gt.b,3,none⟩ _ rfl).next (Only.setCell (S:=(· =gt.b)) _ ⟨gt.b,2,none⟩ _ rfl)) ?_).1
     have:=a7z (k:=2) (a7z (k:=3) HG.out (.int .i64 ((s+1:Nat):Int))) (.int .i64 ((d+1:Nat):Int))
     exact this
    case measure=>
     have:=(HF.out _ ((Only.setCell (S:=(· =gt.b)) W3 ⟨gt.b,3,none⟩ (.int .i64 ((s:Int)+1)) rfl).next (Only.setCell (S:=(· =gt.b)) _ ⟨gt.b,2,none⟩ (.int .i64 ((d:Int)+1)) rfl)) (a7z (k:=2) (a7z (k:=3) HG.out (.int .i64 ((s+1:Nat):Int))) (.int .i64 ((d+1:Nat):Int)))).2
     rw[this,hdw]
     omega
  ·have hddI:decide ((d:Int)<(l.length:Int))=false:=decide_eq_false (by omega)
   rw[hddI]
   have hde:d=l.length:=by omega
   have HE:Hid ((∃T' s',TSm (ajz F w W) W gt l l.length T' s' mb B U bl dr)∧Only F w W):=by
    have q1:=HI.out.2.1.size
    have q2:=HB.out.size
    refine⟨⟨T,s, ?_⟩,HI.out.2.1.next (Below.only HB.out F)⟩
    rw[← hde]
    refine(HI.out.1.below HB.out).mono (λb hb=> ?_) λb hb=> ?_
    ·rcases hb with hb|hb
     ·exact .inl hb
     ·exact .inr ⟨hb.1,by omega⟩
    ·rcases hb with hb|hb
     ·have:=HH.out.2 b hb;omega
     ·exact hb.2
   clear hT hS hg hD hM hlc hpp hB g1 g2 hlen hcm
   go_wp2_with fail
   go_end0
   obtain⟨⟨T',s',h1⟩,h2⟩:=HE.out
   exact⟨rfl,⟨mb,B,U,bl,dr,T',s',h1⟩,h2⟩
def TW (F:Nat→Prop) (w:World) (gt:VB) (l:List OG):Prop:=(∃U bl dr,TSn F w gt l U bl dr)∨∃d T s mb B U bl dr,TSm F w gt l d T s mb B U bl dr
theorem kzz (h:TW F w gt l):
  Calls Tryz.prog 118 #[.pointer (some ⟨gt.b,0,none⟩)] w λe w'=>e=.returned (.tuple #[])∧(∃mb B U bl dr T' s',TSm (ajz F w w') w' gt l l.length T' s' mb B U bl dr)∧Only F w w':=by
 rcases h with⟨U,bl,dr,h⟩|⟨d,T,s,mb,B,U,bl,dr,h⟩
 ·exact imz h
 ·refine(fbz h).mono ?_
  rintro e w' ⟨rfl,⟨T',s',h1⟩,h2⟩
  exact⟨rfl,⟨mb,B,U,bl,dr,T',s',h1⟩,h2⟩
theorem TSm.fold {s:Nat} {T:List OB} (h:TSm F w gt l l.length T s mb B U bl dr):FoldT [] 0 l T s:=by
 obtain⟨FO,kv,L,v,hS,hL,hg,hD,hM⟩:=h.out
 have:=hD.fold
 rw[List.take_of_length_le (by rw[← hL,List.length_map];exact Nat.le_refl _),hL]at this
 exact this
end Go.Proofs.YthhakekbffembaaGreatDoor.Ck.Y

namespace Go.Proofs.YthhakekbffembaaGreatDoor.Ck.Y
open Go.RowKit Go.Maps Go.Lib
section
variable {F:Nat→Prop} {w w':World} {gt:VB} {s:Nat} {l:List OG} {T:List OB}
theorem TSn.kept {S:Nat→Prop} {U:List PI} {bl:PI→Nat} {dr:PI→Bool} (h:TSn F w gt l U bl dr) (ho:Only S w w') (hS:∀b,F b→¬S b):TSn F w' gt l U bl dr:=by
 obtain⟨FO,kv,L,v,h1,h2,h3,h4⟩:=h.out
 exact⟨⟨FO,kv,L,v,h1.kept ho (λb hb=>.inr (.inr λe=>hS b e hb)) ⟨_,h3⟩,h2,(ho.block _ (block_lt h3) (hS _ h1.gtF.1)).trans h3,h4.kept ho λb hb=>hS b (h1.sub b hb)⟩,h.uid,h.ul⟩
theorem TW.kept {S:Nat→Prop} (h:TW F w gt l) (ho:Only S w w') (hS:∀b,F b→¬S b):TW F w' gt l:=by
 rcases h with⟨U,bl,dr,h⟩|⟨d,T,s,mb,B,U,bl,dr,h⟩
 ·exact .inl ⟨U,bl,dr,h.kept ho hS⟩
 ·exact .inr ⟨d,T,s,mb,B,U,bl,dr,h.kept ho hS⟩
theorem TW.below (h:TW F w gt l) (hb:Below w.heap.size w w'):TW F w' gt l:=h.kept (Below.only hb (λ_=>False)) λ_ _ f=>f
theorem TW.low (h:TW F w gt l):∀b,F b→b<w.heap.size:=by
 rcases h with⟨U,bl,dr,h⟩|⟨d,T,s,mb,B,U,bl,dr,h⟩
 ·obtain⟨FO,kv,L,v,hS,_⟩:=h.out;exact hS.low
 ·obtain⟨FO,kv,L,v,hS,_⟩:=h.out;exact hS.low
structure Seen (F:Nat→Prop) (w w':World) (gt:VB) (l:List OG) (T:List OB) (s mb:Nat) (B U:List PI) (bl:PI→Nat) (dr:PI→Bool):Prop where
 ts:TSm (ajz F w w') w' gt l l.length T s mb B U bl dr
 only:Only F w w'
theorem Seen.of_below {w1:World} {mb:Nat} {B U:List PI} {bl:PI→Nat} {dr:PI→Bool} (h:Seen F w1 w' gt l T s mb B U bl dr) (hb:Below w.heap.size w w1) (hl:∀b,F b→b<w.heap.size):Seen F w w' gt l T s mb B U bl dr:=by
 have s1:=hb.size
 have s2:=h.only.size
 refine⟨h.ts.mono (λb hb'=> ?_) λb hb'=> ?_,(Below.only hb F).next h.only⟩
 ·rcases hb' with hb'|hb'
  ·exact .inl hb'
  ·exact .inr ⟨by omega,hb'.2⟩
 ·rcases hb' with hb'|hb'
  ·have:=hl b hb';omega
  ·exact hb'.2
theorem Seen.below {w2:World} {mb:Nat} {B U:List PI} {bl:PI→Nat} {dr:PI→Bool} (h:Seen F w w' gt l T s mb B U bl dr) (hb:Below w'.heap.size w' w2) (hl:∀b,F b→b<w.heap.size):Seen F w w2 gt l T s mb B U bl dr:=by
 have s1:=hb.size
 have s2:=h.only.size
 refine⟨(h.ts.below hb).mono (λb hb'=> ?_) λb hb'=> ?_,h.only.next (Below.only hb F)⟩
 ·rcases hb' with hb'|hb'
  ·exact .inl hb'
  ·exact .inr ⟨hb'.1,by omega⟩
 ·rcases hb' with hb'|hb'
  ·have:=hl b hb';omega
  ·exact hb'.2
theorem Seen.tw {mb:Nat} {B U:List PI} {bl:PI→Nat} {dr:PI→Bool} (h:Seen F w w' gt l T s mb B U bl dr):TW (ajz F w w') w' gt l:=.inr ⟨_,_,_,_,_,_,_,_,h.ts⟩
theorem nQz (h:TW F w gt l) (hf:FoldT [] 0 l T s):
  Calls Tryz.prog 118 #[.pointer (some ⟨gt.b,0,none⟩)] w λe w'=>e=.returned (.tuple #[])∧∃mb B U bl dr,Seen F w w' gt l T s mb B U bl dr:=by
 refine(kzz h).mono ?_
 rintro e w' ⟨rfl,⟨mb,B,U,bl,dr,T',s',h1⟩,h2⟩
 obtain⟨rfl,rfl⟩:=h1.fold.unique hf
 exact⟨rfl,mb,B,U,bl,dr,h1,h2⟩
def nWz (F:Nat→Prop) (w:World) (gt:VB) (l:List OG) (T:List OB) (s:Nat) (t n:Int) (e:Ending) (w':World):Prop:=
 ∃mb B U bl dr,e=.returned (if aTz T (t,n)=true then .pointer (some ⟨bl (t,n),0,none⟩)else .pointer none)∧Seen F w w' gt l T s mb B U bl dr
theorem bSz (h:TW F w gt l) (hf:FoldT [] 0 l T s) (t n:Int):
  Calls Tryz.prog 81 #[.pointer (some ⟨gt.b,0,none⟩),idv t n] w (nWz F w gt l T s t n):=by
 have hlow:=h.low
 have hB1:Below w.heap.size w (w.alloc (.cells #[.int .i64 t,.int .i64 n] 28)):=(Below.refl w.heap.size w).alloc (Nat.le_refl _) _
 have hc:=nQz (h.below hB1) hf
 have hbx:=heap_alloc_new w (.cells #[.int .i64 t,.int .i64 n] 28)
 have HH:Hid (Below w.heap.size w (w.alloc (.cells #[.int .i64 t,.int .i64 n] 28))∧(w.alloc (.cells #[.int .i64 t,.int .i64 n] 28)).heap[w.heap.size]? =some (.cells #[.int .i64 t,.int .i64 n] 28 (0,0))∧∀b,F b→b<w.heap.size):=⟨hB1,hbx,hlow⟩
 clear h hf hlow hB1 hbx
 go_enter Tryz.func81,Tryz.ntmps81
 go_wp2_with (go_at_call 118;refine hc.mono ?_;rintro e W ⟨rfl,mb,B,U,bl,dr,hs⟩;have HS:=a0z hs;clear hs hc)
 obtain⟨FO,kv,L,v,hS,hL,hg,hD,hM⟩:=HS.out.ts.out
 have hbx:W.heap[w.heap.size]? =_:=(HS.out.only.block _ (block_lt HH.out.2.1) (λe=>by have:=HH.out.2.2 _ e;omega)).trans HH.out.2.1
 have g0:W.cell? ⟨gt.b,0,none⟩=some (.map (some mb)):=cellOf hg 0
 have x0:W.cell? ⟨w.heap.size,0,none⟩=some (.int .i64 t):=cellOf hbx 0
 have x1:W.cell? ⟨w.heap.size,1,none⟩=some (.int .i64 n):=cellOf hbx 1
 refine jaz (by kernel_rfl) gt.b w.heap.size mb t n _ W rfl rfl rfl g0 x0 x1 (λW' hW'=>(hM.below hW').look t n) ?_
 intro W2 hB2
 have HR:Hid (Seen F w W2 gt l T s mb B U bl dr):=(HS.out.of_below HH.out.1 HH.out.2.2).below hB2 HH.out.2.2
 clear hB2 g0 x0 x1 hbx hS hL hg hD hM HS
 simp only[abz,sA,sB,sC]
 generalize hvv:(if aTz T (t,n)=true then Value.pointer (some ⟨bl (t,n),0,none⟩)else .pointer none)=vv
 have HV:Hid (vv=if aTz T (t,n)=true then Value.pointer (some ⟨bl (t,n),0,none⟩)else .pointer none):=hvv.symm
 clear hvv
 go_wp2_with fail
 go_ret
 exact⟨mb,B,U,bl,dr,congrArg Ending.returned HV.out,HR.out⟩
end
end Go.Proofs.YthhakekbffembaaGreatDoor.Ck.Y

namespace Go.Proofs.YthhakekbffembaaGreatDoor.Ck.Y
open Go.RowKit Go.Maps Go.Lib
theorem klz {Q:Exit→Act→World→Prop} {base:Array Value} {dd:List Deferred} {ops:Array Oper} (hops:Tryz.f40.body.bind (alz 4)=some ops) (rb bb u:Nat) (t n:Int) (nm:ByteArray) (y0 y1:Value) (w9:World) (hsz:base.size=35) (b4:base.getD 4 undef=pO rb) (b7:base.getD 7 undef=pO bb) (hb:bb≠rb) (hu:u≠rb) (c0:w9.cell? ⟨bb,0,none⟩=some (pO u)) (c1:w9.cell? ⟨bb,1,none⟩=some (.string nm)) (c2:w9.cell? ⟨u,2,none⟩=some (iV t)) (c3:w9.cell? ⟨u,3,none⟩=some (iV n)) (r0:w9.cell? ⟨rb,0,none⟩=some (y0)) (r1:w9.cell? ⟨rb,1,none⟩=some (y1)) (f0:w9.frozen? ⟨rb,0,none⟩=false) (f1:w9.frozen? ⟨rb,1,none⟩=false) (hQ:∀(g:Unit) (W:World),(W=(w9.drew.setCell ⟨rb,0,none⟩ (iV t)).setCell ⟨rb,1,none⟩ (iV n))→Q .normal ⟨abz base ((λ_g:Unit=>([(some 22,pO bb),(some 23,pO bb),(some 24,pO bb),(some 25,pO bb),(some 26,pO u),(some 27,pO u),(some 28,.pointer (some ⟨u,2,none⟩)),(some 29,.agg #[iV t,iV n]),(some 30,pO bb),(some 31,pO bb),(some 32,pO bb),(some 33,.pointer (some ⟨bb,1,none⟩)),(some 34,.string nm),(none,undef),(some 5,.string nm),(some 6,.bool true)]:List (Option Tmp×Value))) g),dd⟩ W):
  (Code.region 4 ops true).wp Tryz.prog Q ⟨base,dd⟩ w9:=by
 have hmix:=hmx
 have h2:=(show Tryz.f40.body.bind (alz 4)=some _ from rfl).symm.trans hops
 obtain rfl:=Option.some.inj h2
 clear h2 hops
 have Kbb0:∀(b:Nat→Bool) (W:World),(if b 13=true then(W=(w9.drew.setCell ⟨rb,0,none⟩ (iV t)).setCell ⟨rb,1,none⟩ (iV n))else W=w9.drew)→W.cell? ⟨bb,0,none⟩=some (pO u):=by
  intro b W hS
  split at hS
  ·rw[hS];exact b1z (bVz w9.drew rb 0 1 _ _) (show w9.drew.cell? ⟨bb,0,none⟩=some (pO u)from c0) (by assumption)
  ·rw[hS];exact c0
 have Kbb1:∀(b:Nat→Bool) (W:World),(if b 13=true then(W=(w9.drew.setCell ⟨rb,0,none⟩ (iV t)).setCell ⟨rb,1,none⟩ (iV n))else W=w9.drew)→W.cell? ⟨bb,1,none⟩=some (.string nm):=by
  intro b W hS
  split at hS
  ·rw[hS];exact b1z (bVz w9.drew rb 0 1 _ _) (show w9.drew.cell? ⟨bb,1,none⟩=some (.string nm)from c1) (by assumption)
  ·rw[hS];exact c1
 have Ku2:∀(b:Nat→Bool) (W:World),(if b 13=true then(W=(w9.drew.setCell ⟨rb,0,none⟩ (iV t)).setCell ⟨rb,1,none⟩ (iV n))else W=w9.drew)→W.cell? ⟨u,2,none⟩=some (iV t):=by
  intro b W hS
  split at hS
  ·rw[hS];exact b1z (bVz w9.drew rb 0 1 _ _) (show w9.drew.cell? ⟨u,2,none⟩=some (iV t)from c2) (by assumption)
  ·rw[hS];exact c2
 have Ku3:∀(b:Nat→Bool) (W:World),(if b 13=true then(W=(w9.drew.setCell ⟨rb,0,none⟩ (iV t)).setCell ⟨rb,1,none⟩ (iV n))else W=w9.drew)→W.cell? ⟨u,3,none⟩=some (iV n):=by
  intro b W hS
  split at hS
  ·rw[hS];exact b1z (bVz w9.drew rb 0 1 _ _) (show w9.drew.cell? ⟨u,3,none⟩=some (iV n)from c3) (by assumption)
  ·rw[hS];exact c3
 obtain⟨LL,hLe⟩:=qG hQ
 have vv7:∀g,aaz (LL g) 7=.agg #[iV t,iV n]:=λg=>by rw[hLe];rfl
 have vv13:∀g,aaz (LL g) 13=undef:=λg=>by rw[hLe];rfl
 refine axz hmix (by kernel_rfl) 35 hsz (by kernel_rfl) () LL (λg=>by rw[hLe];rfl) (λ(_g:Unit) (b:Nat→Bool) (W:World)=>if b 13=true then(W=(w9.drew.setCell ⟨rb,0,none⟩ (iV t)).setCell ⟨rb,1,none⟩ (iV n))else(W=w9.drew)) ?_ ?_ ?_
 ·simp only[Bool.false_eq_true,if_false]
 ·intro g b W io Oo a hS hcl ho hb hd ev kp yl
  have Vv:=aV (congrFun hLe g);have Ee:=aE (congrFun hLe g) rfl ev
  have e7:=(kp 7 (aqz (by kernel_rfl))).trans b7
  have hl2:=Ku3 b W hS
  simp only[AV,AE,Nat.zero_add,Nat.reduceAdd,and_true]at Vv Ee
  match io with
  |0|1|2|3|5|6|8|9|10|11|14|15=>simp only[qq]at ho;subst ho;have hd:=aD hd;simp only[AD,and_true]at hd;refine a9z rfl nofun ?_ ⟨g,λ_ _=>rfl,rfl,by simpa[did]using hS⟩;simp only[Vv];simp[execOp,go_sem,Ee,e7,hd]
  |4=>simp only[qq]at ho;subst ho;have hd:=aD hd;simp only[AD,and_true]at hd;have hl:=Kbb0 b W hS;refine a9z rfl nofun ?_ ⟨g,λ_ _=>rfl,rfl,by simpa[did]using hS⟩;simp only[Vv];simp[execOp,go_sem,Ee,hd,hl]
  |7=>simp only[qq]at ho;subst ho;have hd:=aD hd;simp only[AD,and_true]at hd;have hl:=Ku2 b W hS;refine a9z rfl nofun ?_ ⟨g,λ_ _=>rfl,rfl,by simpa[did]using hS⟩;simp only[Vv];simp[execOp,go_sem,Ee,hd,hl,hl2]
  |12=>simp only[qq]at ho;subst ho;have hd:=aD hd;simp only[AD,and_true]at hd;have hl:=Kbb1 b W hS;refine a9z rfl nofun ?_ ⟨g,λ_ _=>rfl,rfl,by simpa[did]using hS⟩;simp only[Vv];simp[execOp,go_sem,Ee,hd,hl]
  |13=>
   simp only[qq]at ho;subst ho;have e4:=(kp 4 (aqz (by kernel_rfl))).trans b4;have e29:=eD ev hd 7 29 (vv7 g);have hS9:W=w9.drew:=by simpa[hb]using hS
   obtain⟨W',hr,hP⟩:=(⟨_,trivial,rfl⟩:∃W',True∧W'=(w9.drew.setCell ⟨rb,0,none⟩ (iV t)).setCell ⟨rb,1,none⟩ (iV n))
   refine blz rfl nofun (w':=W') ?_ ⟨g,λ_ _=>rfl,(vv13 _).symm, ?_⟩
   ·rw[hS9,hP];simp[execOp,go_sem,e4,e29,r0,r1,f0,f1]
   ·simpa[did]using hP
  |k+16=>simp at ho
 ·intro g b W hS hall
  have hl9:b 13=true:=hall 13 (by decide)
  subst hLe
  exact hQ g W (by simpa[hl9]using hS)
section
variable {F:Nat→Prop} {w w':World} {gt:VB} {s:Nat} {l:List OG} {T:List OB}
theorem g5z (h:TW F w gt l) (hf:FoldT [] 0 l T s) (t n:Int) (hh:aTz T (t,n)=false) (w0:World) (hb:Below w0.heap.size w0 w) (hl:∀b,F b→b<w0.heap.size):
  Calls Tryz.prog 81 #[.pointer (some ⟨gt.b,0,none⟩),idv t n] w λe w'=>e=.returned (.pointer none)∧Hid (TW (ajz F w0 w') w' gt l∧Only F w0 w'):=by
 refine(bSz h hf t n).mono ?_
 rintro e W ⟨mb,B,U,bl,dr,rfl,hs⟩
 have hs':=hs.of_below hb hl
 rw[if_neg (by rw[hh];decide)]
 exact⟨rfl,hs'.tw,hs'.only⟩
structure oyz (F:Nat→Prop) (w0:World) (gt:VB) (l:List OG) (T:List OB) (t n:Int) (b:Nat) (W:World):Prop where
 tw:TW (ajz F w0 W) W gt l
 only:Only F w0 W
 seen:∃s mb B U bl dr,Seen F w0 W gt l T s mb B U bl dr∧b=bl (t,n)∧(t,n)∈U
 dir:W.cell? ⟨b,4,none⟩=some (.bool (aAz T t n))
theorem eWz (h:TW F w gt l) (hf:FoldT [] 0 l T s) (t n:Int) (hh:aTz T (t,n)=true) (w0:World) (hb:Below w0.heap.size w0 w) (hl:∀b,F b→b<w0.heap.size):
  Calls Tryz.prog 81 #[.pointer (some ⟨gt.b,0,none⟩),idv t n] w λe w'=>∃b,e=.returned (.pointer (some ⟨b,0,none⟩))∧Hid (oyz F w0 gt l T t n b w'):=by
 refine(bSz h hf t n).mono ?_
 rintro e W ⟨mb,B,U,bl,dr,rfl,hs⟩
 have hs':=hs.of_below hb hl
 rw[if_pos hh]
 obtain⟨FO,kv,L,v,hS,hL,hg,hD,hM⟩:=hs'.ts.out
 have hU:=hM.inU hh
 refine⟨bl (t,n),rfl,hs'.tw,hs'.only,⟨s,mb,B,U,bl,dr,hs',rfl,hU⟩, ?_⟩
 have h4:=hM.objs.cell hU 4
 have hd:=hM.isdir (t,n)
 rw[hh]at hd
 have:aAz T t n=dr (t,n):=hd
 rw[this]
 exact h4
theorem mUz (h:TW F w gt l) (hf:FoldT [] 0 l T s) (t n:Int):
  Calls Tryz.prog 43 #[.pointer (some ⟨gt.b,0,none⟩),idv t n] w λe w'=>e=.returned (.bool (aAz T t n))∧TW (ajz F w w') w' gt l∧Only F w w':=by
 have hlow:=h.low
 have hB1:Below w.heap.size w (w.alloc (.cells #[.int .i64 t,.int .i64 n] 28)):=(Below.refl w.heap.size w).alloc (Nat.le_refl _) _
 have h1:=h.below hB1
 cases hh:aTz T (t,n)with
 |false=>
  have hd:aAz T t n=false:=by
   unfold aTz at hh
   simp only[Bool.or_eq_false_iff]at hh
   unfold aAz
   rw[hh.1.1,hh.1.2]
   cases hq:aoz T t n with
   |none=>rfl
   |some k=>simp[hq]at hh
  rw[hd]
  have hc:=g5z h1 hf t n hh w hB1 hlow
  clear h hf hlow hB1 h1
  go_enter Tryz.func43,Tryz.ntmps43
  go_wp2_with (go_at_call 81;refine hc.mono ?_;rintro e W ⟨rfl,HR⟩;clear hc)
  go_ret
  exact⟨rfl,HR.out⟩
 |true=>
  have hc:=eWz h1 hf t n hh w hB1 hlow
  clear h hf hlow hB1 h1
  go_enter Tryz.func43,Tryz.ntmps43
  go_wp2_with (go_at_call 81;refine hc.mono ?_;rintro e W ⟨b,rfl,HR⟩;clear hc;have c4:=HR.out.dir)
  go_ret
  exact⟨rfl,HR.out.tw,HR.out.only⟩
end
end Go.Proofs.YthhakekbffembaaGreatDoor.Ck.Y

namespace Go.Proofs.YthhakekbffembaaGreatDoor.Ck.Y
open Go.RowKit Go.Maps Go.Lib
def stP (e:SR):PI:=(e.o.t,e.o.n)
def kyS (L:List SR) (b:Nat):PI:=((L.find? λe=>decide (e.sb=b)).map stP).getD (0,0)
theorem cLz {F FO:Nat→Prop} {w:World} {gt:Nat} {v:Value} {L:List SR} {U:List PI} {bl:PI→Nat} {dr:PI→Bool} (h:SM F FO w gt v L U bl dr) {e:SR} (he:e∈L):kyS L e.sb=stP e:=by
 unfold kyS
 cases hf:L.find? λx=>decide (x.sb=e.sb)with
 |none=>exact absurd (List.find?_eq_none.1 hf e he) (by simp)
 |some x=>
  have h1:=List.find?_some hf
  have hx:=List.mem_of_find?_eq_some hf
  obtain⟨i,hi,ei⟩:=List.getElem_of_mem hx
  obtain⟨j,hj,ej⟩:=List.getElem_of_mem he
  by_cases hij:i=j
  ·subst hij
   rw[ei]at ej
   rw[ej];rfl
  ·have:=hEz (R:=λ(a b:SR)=>a.sb≠b.sb∧a.x≠b.x) (λa b h=>⟨h.1.symm,h.2.symm⟩) h.nd (by rw[List.getElem?_eq_getElem hi,ei]) (by rw[List.getElem?_eq_getElem hj,ej]) hij
   exact absurd (by simpa using h1) this.1
structure InsAt (l:List OG) (q:PI) (i:Nat):Prop where
 le:i≤l.length
 lo:∀k x,k<i→l[k]? =some x→avz (x.t,x.n) q
 hi:∀k x,i≤k→l[k]? =some x→avz q (x.t,x.n)
section
variable {F FO:Nat→Prop} {w:World} {gt:Nat} {v:Value} {L:List SR} {U:List PI} {bl:PI→Nat} {dr:PI→Bool}
theorem SM.sorted (h:SM F FO w gt v L U bl dr):(L.map (·.sb)).Pairwise λa b=>avz (kyS L a) (kyS L b):=by
 rw[List.pairwise_map]
 exact List.Pairwise.imp_of_mem (λ{a b} ha hb hab=>by rw[cLz h ha,cLz h hb];exact hab) h.rise
theorem SM.search (h:SM F FO w gt v L U bl dr) (t n:Int) {i:Nat} {r:Bool} (hat:AtK (L.map (·.sb)) (kyS L) (t,n) i r) (hgt:∃cs,w.heap[gt]? =some (.cells cs 77 (0,0))):
  ∀W,Below w.heap.size w W→Calls Tryz.prog 68 #[v,idv t n,.func (.func 69) #[] #[]] W λe w'=>e=.returned (.tuple #[.int .i64 (i:Nat),.bool r])∧Below W.heap.size W w':=by
 intro W hW
 have h':=h.kept (Below.only hW (λ_=>False)) (λb f=>f.elim) hgt
 obtain⟨p,c,e,hlc,hcm,hpp⟩:=h'.row.form
 have hl:(L.map (·.sb)).length≤1001:=by rw[List.length_map];have:=h.len;omega
 have hk:∀x∈L.map (·.sb),W.cell? ⟨x,0,none⟩=some (.int .i64 (kyS L x).1)∧W.cell? ⟨x,1,none⟩=some (.int .i64 (kyS L x).2):=λx hx=>by
  obtain⟨y,hy,rfl⟩:=List.mem_map.1 hx
  have hs:=(h'.st y hy).blk
  rw[cLz h hy]
  exact⟨cellOf hs 0,cellOf hs 1⟩
 rw[e]
 rcases Nat.eq_zero_or_pos (L.map (·.sb)).length with h0|h0
 ·exact esz 0 c _ (kyS L) t n i r hat W p (λhh=>by omega) h.sorted hl hlc (λj x hx=>by have:=(List.getElem?_eq_some_iff.1 hx).1;omega) hk
 ·obtain⟨g,rfl,hc⟩:=hpp h0
  exact esz g c _ (kyS L) t n i r hat W _ (λ_=>rfl) h.sorted hl hlc hc hk
theorem SM.place (h:SM F FO w gt v L U bl dr) (q:PI):∃i r,AtK (L.map (·.sb)) (kyS L) q i r∧(r=true→∃o∈L.map (·.o),(o.t,o.n)=q)∧(r=false→InsAt (L.map (·.o)) q i):=by
 obtain⟨i,r,hat⟩:=AtK.exists q h.sorted
 have hget:∀(k:Nat) (x:OG),(L.map (·.o))[k]? =some x→∃e:SR,L[k]? =some e∧x=e.o:=λk x hx=>by
  rw[List.getElem?_map]at hx
  obtain⟨e,he,rfl⟩:=Option.map_eq_some_iff.1 hx
  exact⟨e,he,rfl⟩
 refine⟨i,r,hat,λhr=> ?_,λhr=>⟨by have:=hat.le;rw[List.length_map]at this⊢;exact this,λk x hk hx=> ?_,λk x hk hx=> ?_⟩⟩
 ·obtain⟨x,hx,e⟩:=hat.eq.1 hr
  rw[List.getElem?_map]at hx
  obtain⟨y,hy,rfl⟩:=Option.map_eq_some_iff.1 hx
  have hm:=List.mem_of_getElem? hy
  rw[cLz h hm]at e
  exact⟨y.o,List.mem_map.2 ⟨y,hm,rfl⟩,e⟩
 ·obtain⟨e,he,rfl⟩:=hget k x hx
  have:=hat.lo k e.sb hk (by rw[List.getElem?_map,he];rfl)
  rwa [cLz h (List.mem_of_getElem? he)]at this
 ·obtain⟨e,he,rfl⟩:=hget k x hx
  have hm:=List.mem_of_getElem? he
  have h1:=hat.hi k e.sb hk (by rw[List.getElem?_map,he];rfl)
  rw[cLz h hm]at h1
  refine f7z h1 λe'=> ?_
  -- it is the first one that isn't less, so r would be true
  have hki:k=i:=by
   rcases Nat.lt_or_eq_of_le hk with hlt|e2
   ·have hkl:=(List.getElem?_eq_some_iff.1 he).1
    obtain⟨f,hf⟩:∃f,L[i]? =some f:=⟨_,List.getElem?_eq_getElem (by omega)⟩
    have h2:=hat.hi i f.sb (Nat.le_refl _) (by rw[List.getElem?_map,hf];rfl)
    rw[cLz h (List.mem_of_getElem? hf)]at h2
    have h3:=List.pairwise_iff_getElem.1 h.rise i k (by omega) hkl hlt
    rw[(List.getElem?_eq_some_iff.1 hf).2,(List.getElem?_eq_some_iff.1 he).2]at h3
    have e3:q=(e.o.t,e.o.n):=(Prod.ext e'.1 e'.2:stP e=q).symm
    rw[e3]at h2
    exact absurd h3 h2
   ·exact e2.symm
  subst hki
  have:r=true:=hat.eq.2 ⟨e.sb,by rw[List.getElem?_map,he];rfl,by rw[cLz h hm];exact Prod.ext e'.1 e'.2⟩
  rw[this]at hr
  cases hr
theorem kJz {L:List SR} {e:SR} {i:Nat} (h:L.Pairwise λa b=>avz (a.o.t,a.o.n) (b.o.t,b.o.n)) (hi:InsAt (L.map (·.o)) (e.o.t,e.o.n) i):(L.take i++e::L.drop i).Pairwise λa b=>avz (a.o.t,a.o.n) (b.o.t,b.o.n):=by
 have h':=h
 rw[← List.take_append_drop i L,List.pairwise_append]at h'
 have lo:∀a∈L.take i,avz (a.o.t,a.o.n) (e.o.t,e.o.n):=λa ha=>by
  obtain⟨k,hk,ek⟩:=List.getElem_of_mem ha
  rw[List.length_take]at hk
  rw[List.getElem_take]at ek
  exact hi.lo k a.o (by omega) (by rw[List.getElem?_map,List.getElem?_eq_getElem (by omega),ek];rfl)
 have hi2:∀a∈L.drop i,avz (e.o.t,e.o.n) (a.o.t,a.o.n):=λa ha=>by
  obtain⟨k,hk,ek⟩:=List.getElem_of_mem ha
  rw[List.length_drop]at hk
  rw[List.getElem_drop]at ek
  exact hi.hi (i+k) a.o (by omega) (by rw[List.getElem?_map,List.getElem?_eq_getElem (by omega),ek];rfl)
 rw[List.pairwise_append]
 refine⟨h'.1,List.pairwise_cons.2 ⟨hi2,h'.2.1⟩,λa ha b hb=> ?_⟩
 rcases List.mem_cons.1 hb with rfl|hb
 ·exact lo a ha
 ·exact h'.2.2 a ha b hb
theorem g1z {α:Type} {L:List α} {e f:α} {i:Nat} (h:f∈L.take i++e::L.drop i):f=e∨f∈L:=by
 rcases List.mem_append.1 h with h|h
 ·exact .inr (List.mem_of_mem_take h)
 ·rcases List.mem_cons.1 h with h|h
  ·exact .inl h
  ·exact .inr (List.mem_of_mem_drop h)
theorem SM.add {F':Nat→Prop} {Wf:World} {v':Value} {e:SR} {i:Nat} (h:SM F FO w gt v L U bl dr) (hgt:∃cs,w.heap[gt]? =some (.cells cs 77 (0,0))) (hs:StAt w gt bl e.o e.sb e.x e.did e.fu e.fn) (hsb:¬F e.sb) (hx:¬F e.x) (hxl:e.x<w.heap.size) (hok:¬e.o.ot=0∧(mkK e.o=true→e.o.ot=e.o.t∧e.o.on=e.o.n∧awz e.o.pt e.o.pn=false∧(e.o.ot,e.o.on)∈U∧dr (e.o.ot,e.o.on)=decide (e.o.kd=1))) (hi:InsAt (L.map (·.o)) (e.o.t,e.o.n) i) (hlen:L.length+1≤800) (hrow:RowP 117 Wf 0 v' ((L.take i++e::L.drop i).map (·.sb))) (ho:Only (λb=>b=gt∨v.ownBlock=some b) w Wf) (hF:∀b,F b→F' b) (hF1:F' e.sb∧F' e.x) (hFO:¬FO e.sb∧¬FO e.x) (hrf:∀g,v'.ownBlock=some g→F' g∧¬FO g) (hl:∀b,F' b→b<Wf.heap.size):
  SM F' FO Wf gt v' (L.take i++e::L.drop i) U bl dr:=by
 obtain⟨cs,hgt⟩:=hgt
 have keep:∀{b:Nat} {cs:Array Value} {t:TypeId},w.heap[b]? =some (.cells cs t (0,0))→t≠77→t≠117→Wf.heap[b]? =some (.cells cs t (0,0)):=λ{b cs' t} hb h1 h2=>(ho.block _ (block_lt hb) (λhh=>by
  rcases hh with hh|hh
  ·exact aiz hb hgt h1 hh
  ·obtain⟨_,_,cur,ht⟩:=h.row.tag hh
   exact aiz hb ht h2 rfl)).trans hb
 have stk:∀{f:SR},StAt w gt bl f.o f.sb f.x f.did f.fu f.fn→StAt Wf gt bl f.o f.sb f.x f.did f.fu f.fn:=λhf=>⟨keep hf.blk (by decide) (by decide),λk=>keep (hf.mkat k) (by decide) (by decide),λk=>keep (hf.mvat k) (by decide) (by decide)⟩
 refine⟨hrow,λf hf=> ?_, ?_,kJz h.rise hi,λf hf=> ?_, ?_,λb hb=>hF b (h.sub b hb),⟨hF _ h.gtF.1,h.gtF.2⟩,hrf,λf hf=> ?_,hl⟩
 ·rcases g1z hf with rfl|hf
  ·exact stk hs
  ·exact stk (h.st f hf)
 ·have h':=h.nd
  rw[← List.take_append_drop i L,List.pairwise_append]at h'
  have ne:∀a∈L,a.sb≠e.sb∧a.x≠e.x:=λa ha=>⟨λe'=>hsb (by rw[← e'];exact(h.stF a ha).1),λe'=>hx (by rw[← e'];exact(h.stF a ha).2.2.1)⟩
  rw[List.pairwise_append]
  refine⟨h'.1,List.pairwise_cons.2 ⟨λa ha=> ?_,h'.2.1⟩,λa ha b hb=> ?_⟩
  ·have:=ne a (List.mem_of_mem_drop ha)
   exact⟨this.1.symm,this.2.symm⟩
  ·rcases List.mem_cons.1 hb with rfl|hb
   ·exact ne a (List.mem_of_mem_take ha)
   ·exact h'.2.2 a ha b hb
 ·rcases g1z hf with rfl|hf
  ·exact hok
  ·exact h.ok f hf
 ·have:(L.take i++e::L.drop i).length=L.length+1:=by
   have:=hi.le
   rw[List.length_map]at this
   simp
   omega
  omega
 ·rcases g1z hf with rfl|hf
  ·exact⟨hF1.1,hFO.1,hF1.2,hFO.2⟩
  ·exact⟨hF _ (h.stF f hf).1,(h.stF f hf).2.1,hF _ (h.stF f hf).2.2.1,(h.stF f hf).2.2.2⟩
end
end Go.Proofs.YthhakekbffembaaGreatDoor.Ck.Y

namespace Go.Proofs.YthhakekbffembaaGreatDoor.Ck.Y
open Go.RowKit Go.Maps Go.Lib
variable {o:OG} {w:World} {F:Nat→Prop} {gt:VB} {l:List OG} {i:Nat}
def nmz (o:OG) (ns:List Int):Bool:=Cd.mayO o.t o.n o.sq o.kd o.ot o.on o.pt o.pn o.nm.data.toList o.dl ns
structure OpIn (w:World) (o:OG) (ns:List Int):Prop where
 seen:Cd.Lies w o.sp (ns.map Cd.iv)
 sl:ns.length=o.sl
 sc:ns.length≤o.sc
 le:ns.length≤1000000
 dl:o.dl<9000000000000000000
 nm:o.nm.size≤1000000
theorem nVz {ns:List Int} (h:nmz o ns=true):1≤o.t∧¬o.ot=0∧(mkK o=true→o.ot=o.t∧o.on=o.n∧awz o.pt o.pn=false):=by
 unfold nmz Cd.mayO at h
 rw[Bool.and_eq_true,Bool.and_eq_true]at h
 obtain⟨⟨h1,_⟩,h3⟩:=h
 have ht:=(validB_true.1 h1).1
 unfold Cd.kindB at h3
 by_cases k12:o.kd=1∨o.kd=2
 ·rw[if_pos k12,Bool.and_eq_true,Bool.and_eq_true]at h3
  obtain⟨⟨h4,h5⟩,_⟩:=h3
  obtain⟨e1,e2⟩:=Cd.sameB_true.1 h4
  refine⟨ht,by omega,λ_=>⟨e1,e2, ?_⟩⟩
  rcases Bool.or_eq_true_iff.1 h5 with h5|h5
  ·have:=Cd.rootB_true.1 h5
   simp[awz,this.2]
  ·have:=Cd.olderB_time h5
   have hne:¬o.pt=0:=by omega
   simp[awz,hne]
 ·have hm:¬mkK o=true:=λe=>k12 (mkK_iff.1 e)
  rw[if_neg k12]at h3
  by_cases k3:o.kd=3
  ·rw[if_pos k3,Bool.and_eq_true,Bool.and_eq_true]at h3
   have:=Cd.olderB_time h3.1.1
   exact⟨ht,by omega,λe=>absurd e hm⟩
  ·rw[if_neg k3]at h3
   by_cases k4:o.kd=4
   ·rw[if_pos k4,Bool.and_eq_true,Bool.and_eq_true,Bool.and_eq_true]at h3
    have:=Cd.olderB_time h3.1.1.1
    exact⟨ht,by omega,λe=>absurd e hm⟩
   ·rw[if_neg k4]at h3;cases h3
theorem dXz {ns:List Int} (h:OpIn w o ns):Calls Tryz.prog 67 #[b2z o] w λe w'=>e=.returned (.bool (nmz o ns))∧Below w.heap.size w w':=by
 have:=Cd.omay_any o.t o.n o.sq o.kd o.ot o.on o.pt o.pn o.nm.data.toList o.dp o.sp o.dl o.dc o.sl o.sc ns w (by rw[← Lib.size_eq];have:=h.nm;omega) h.dl h.sl h.le h.sc h.seen
 rw[Cd.bas_of]at this
 exact this
def TWi (F:Nat→Prop) (w:World) (gt:VB) (l:List OG) (i:Nat):Prop:=(∃U bl dr,TSn F w gt l U bl dr)∨∃d T s mb B U bl dr,d≤i∧TSm F w gt l d T s mb B U bl dr
theorem k8z {gt:Nat} (i:Nat) (hg:w.cell? ⟨gt,2,none⟩=some (.int .i64 0)):Calls Tryz.prog 70 #[.pointer (some ⟨gt,0,none⟩),.int .i64 (i:Nat)] w λe w'=>e=.returned (.tuple #[])∧w'=w:=by
 go_enter Tryz.func70,Tryz.ntmps70
 go_wp2_with fail
 go_loopw [4] (λ_ wr=>wr=w) (λ_ _=>0)
 case atStart=>rfl
 case round=>
  subst hrel
  have hI:¬(i:Int)<0:=by omega
  go_wp2_with fail
  go_end0
  exact⟨rfl,rfl⟩
theorem lVz (h:TW F w gt l) (i:Nat) (hi:i≤1000):Calls Tryz.prog 70 #[.pointer (some ⟨gt.b,0,none⟩),.int .i64 (i:Nat)] w λe w'=>e=.returned (.tuple #[])∧Hid (TWi (ajz F w w') w' gt l i∧Only F w w'):=by
 rcases h with⟨U,bl,dr,h⟩|⟨d,T,s,mb,B,U,bl,dr,h⟩
 ·have hg:w.cell? ⟨gt.b,2,none⟩=some (.int .i64 0):=by obtain⟨FO,kv,L,v,hS,_,hg,_⟩:=h.out;exact cellOf hg 2
  refine(k8z i hg).mono ?_
  rintro e w' ⟨rfl,rfl⟩
  refine⟨rfl,.inl ⟨U,bl,dr, ?_⟩,Only.refl _ _⟩
  obtain⟨FO,kv,L,v,hS,hr⟩:=h.out
  exact⟨⟨FO,kv,L,v,hS.mono (λb hb=>.inl hb) (λb hb=>hb.elim (hS.low b) λe=>e.2),hr⟩,h.uid,h.ul⟩
 ·refine(kxz i hi h).mono ?_
  rintro e w' ⟨rfl,⟨d',T',s',h1,h2⟩,h3⟩
  exact⟨rfl,.inr ⟨d',T',s',mb,B,U,bl,dr,h1,h2⟩,h3⟩
def o5z (L:List SR) (i:Nat) (v:Value) (sb:Nat) (y:Option Addr×Nat×Nat) (W1 W2:World):Prop:=
 RowP 117 W2 0 (.slice y.1 y.2.1 y.2.2) ((L.map (·.sb)).take i++sb::(L.map (·.sb)).drop i)∧(W1.alloc (.cells #[.pointer (some ⟨sb,0,none⟩)] 117)).grownBy W2 v.ownBlock∧((Value.slice y.1 y.2.1 y.2.2).ownBlock=v.ownBlock∨(Value.slice y.1 y.2.1 y.2.2).ownBlock=some (W1.alloc (.cells #[.pointer (some ⟨sb,0,none⟩)] 117)).heap.size)
theorem SM.applied {FO FO':Nat→Prop} {W W1 W2:World} {v m0 d0 s0:Value} {L:List SR} {U U':List PI} {bl bl':PI→Nat} {dr dr':PI→Bool} {sb x ob:Nat} {y:Option Addr×Nat×Nat} (h:SM F FO W gt.b v L U bl dr) (hg:W.heap[gt.b]? =some (.cells #[m0,v,d0,s0,gt.fv,gt.cn] 77 (0,0))) (hM:Made W W1 gt.b o sb x ob) (hR:o5z L i v sb y W1 W2) (h0:¬o.ot=0) (hmk:mkK o=true→o.ot=o.t∧o.on=o.n∧awz o.pt o.pn=false) (hi:InsAt (L.map (·.o)) (o.t,o.n) i) (hlen:L.length+1≤800) (hu:∀q∈U,q∈U') (hb:∀q∈U,bl' q=bl q) (hd:∀q∈U,dr' q=dr q) (hbl:mkK o=true→bl' (o.ot,o.on)=ob∧(o.ot,o.on)∈U'∧dr' (o.ot,o.on)=decide (o.kd=1)) (hfo:∀b,FO' b→FO b∨(b=ob∧mkK o=true)):
  SM (ajz F W (W2.setCell ⟨gt.b,1,none⟩ (.slice y.1 y.2.1 y.2.2))) FO' (W2.setCell ⟨gt.b,1,none⟩ (.slice y.1 y.2.1 y.2.2)) gt.b (.slice y.1 y.2.1 y.2.2) (L.take i++⟨o,sb,x,false,.pointer none,⟨#[]⟩⟩::L.drop i) U' bl' dr'∧
  (W2.setCell ⟨gt.b,1,none⟩ (.slice y.1 y.2.1 y.2.2)).heap[gt.b]? =some (.cells #[m0,.slice y.1 y.2.1 y.2.2,d0,s0,gt.fv,gt.cn] 77 (0,0))∧Only F W (W2.setCell ⟨gt.b,1,none⟩ (.slice y.1 y.2.1 y.2.2))∧Only (λb=>b=gt.b∨v.ownBlock=some b) W (W2.setCell ⟨gt.b,1,none⟩ (.slice y.1 y.2.1 y.2.2))∧
  (mkK o=true→(W2.setCell ⟨gt.b,1,none⟩ (.slice y.1 y.2.1 y.2.2)).heap[ob]? =some (.cells (olz o) 131 (0,0))∧W.heap.size≤ob):=by
 obtain⟨hrow,hgr,hown⟩:=hR
 have hg1:W1.heap[gt.b]? =_:=(hM.bel.block _ (block_lt hg)).trans hg
 have hBa:Below W1.heap.size W1 (W1.alloc (.cells #[.pointer (some ⟨sb,0,none⟩)] 117)):=(Below.refl W1.heap.size W1).alloc (Nat.le_refl _) _
 have hga:=(hBa.block _ (block_lt hg1)).trans hg1
 have hgro:=b5z hgr
 have rowne:∀{b:Nat} {cs:Array Value} {t:TypeId},W.heap[b]? =some (.cells cs t (0,0))→t≠117→v.ownBlock≠some b:=λhbk ht e=>by
  obtain⟨_,_,cur,ht2⟩:=h.row.tag e
  exact aiz hbk ht2 ht rfl
 have hg2:W2.heap[gt.b]? =_:=(hgro.block _ (block_lt hga) (rowne hg (by decide))).trans hga
 have hgf:=a7z (k:=1) hg2 (.slice y.1 y.2.1 y.2.2)
 have ho2:Only (· =gt.b) W2 (W2.setCell ⟨gt.b,1,none⟩ (.slice y.1 y.2.1 y.2.2)):=Only.setCell (S:=(· =gt.b)) W2 ⟨gt.b,1,none⟩ _ rfl
 have hOa:Only (λb=>b=gt.b∨v.ownBlock=some b) W1 (W2.setCell ⟨gt.b,1,none⟩ (.slice y.1 y.2.1 y.2.2)):=((Below.only hBa _).next (atz hgro λb hb=>.inr hb)).next (atz ho2 λb hb=>.inl hb)
 have hOw:Only (λb=>b=gt.b∨v.ownBlock=some b) W (W2.setCell ⟨gt.b,1,none⟩ (.slice y.1 y.2.1 y.2.2)):=(Below.only hM.bel _).next hOa
 have s1:=hM.bel.size
 have s2:W1.heap.size+1≤W2.heap.size:=by have:=hgr.size;simpa using this
 have hS1:=(h.kept (Below.only hM.bel (λ_=>False)) (λb f=>f.elim) ⟨_,hg⟩).names hu hb hd
 have hst:=hM.st bl' λk=>(hbl k).1
 have hsbl:=block_lt hst.blk
 have hFl:∀b,F b→b<W.heap.size:=h.low
 have hobn:mkK o=true→sb≠ob:=λk=>aiz hst.blk (hM.obj k) (by decide)
 have hxn:mkK o=true→x≠ob:=λk=>aiz (hst.mkat k) (hM.obj k) (by decide)
 have hxl:x<W1.heap.size:=hM.xl
 have notFO:∀b,W.heap.size≤b→¬FO b:=λb hb' hf=>by have:=hFl b (h.sub b hf);omega
 have hobl:mkK o=true→ob<W1.heap.size:=λk=>block_lt (hM.obj k)
 have hS2:SM (λb=>F b∨(b=ob∧mkK o=true)) FO' W1 gt.b v L U' bl' dr':=by
  refine hS1.other (λb hb=>.inl hb) (λb hb=> ?_) (λb hb=> ?_) λb hb hn hf=> ?_
  ·rcases hb with hb|hb
   ·have:=hFl b hb;omega
   ·rw[hb.1];exact hobl hb.2
  ·rcases hfo b hb with hb|hb
   ·exact .inl (h.sub b hb)
   ·exact .inr hb
  ·rcases hfo b hf with hf|hf
   ·exact hn hf
   ·have:=hFl b hb;have:=hM.hob;omega
 have hmap:(L.map (·.sb)).take i++sb::(L.map (·.sb)).drop i=(L.take i++(⟨o,sb,x,false,.pointer none,⟨#[]⟩⟩:SR)::L.drop i).map (·.sb):=by rw[List.map_append,List.map_take,List.map_cons,List.map_drop]
 rw[hmap]at hrow
 have hrowf:RowP 117 (W2.setCell ⟨gt.b,1,none⟩ (.slice y.1 y.2.1 y.2.2)) 0 (.slice y.1 y.2.1 y.2.2) ((L.take i++(⟨o,sb,x,false,.pointer none,⟨#[]⟩⟩:SR)::L.drop i).map (·.sb)):=hrow.kept ho2 λb hb' e=>by
  obtain⟨_,_,cur,ht⟩:=hrow.tag hb'
  exact aiz ht hg2 (by decide) e
 have hsz:(W2.setCell ⟨gt.b,1,none⟩ (.slice y.1 y.2.1 y.2.2)).heap.size=W2.heap.size:=by simp
 have hown':∀g,(Value.slice y.1 y.2.1 y.2.2).ownBlock=some g→ajz F W (W2.setCell ⟨gt.b,1,none⟩ (.slice y.1 y.2.1 y.2.2)) g∧¬FO' g:=λg hg'=>by
  have hgl:=(hrow.tag hg').2.1
  obtain⟨_,_,cur,htg⟩:=hrow.tag hg'
  rcases hown with e|e
  ·rw[e]at hg'
   refine⟨.inl (h.rowF g hg').1,λhf=> ?_⟩
   rcases hfo g hf with hf|hf
   ·exact(h.rowF g hg').2 hf
   ·have:=hFl g (h.rowF g hg').1;have:=hM.hob;omega
  ·rw[e]at hg'
   cases hg'
   have s3:(W1.alloc (.cells #[.pointer (some ⟨sb,0,none⟩)] 117)).heap.size=W1.heap.size+1:=by simp
   refine⟨.inr ⟨by rw[s3];omega,by rw[hsz];exact hgl⟩,λhf=> ?_⟩
   rcases hfo _ hf with hf|hf
   ·exact notFO _ (by rw[s3];omega) hf
   ·have:=block_lt (hM.obj hf.2)
    rw[← hf.1,s3]at this
    omega
 refine⟨?_,hgf, ?_,hOw,λk=>⟨(hOa.block _ (block_lt (hM.obj k)) (λhh=> ?_)).trans (hM.obj k),hM.hob⟩⟩
 ·refine hS2.add (F':=ajz F W (W2.setCell ⟨gt.b,1,none⟩ (.slice y.1 y.2.1 y.2.2))) (e:=⟨o,sb,x,false,.pointer none,⟨#[]⟩⟩) ⟨_,hg1⟩ hst ?_ ?_ hxl ⟨h0,λk=>⟨(hmk k).1,(hmk k).2.1,(hmk k).2.2,(hbl k).2.1,(hbl k).2.2⟩⟩ hi hlen hrowf hOa (λb hb=> ?_) ⟨?_, ?_⟩ ⟨?_, ?_⟩ hown' λb hb=> ?_
  ·rintro(hf|hf)
   ·have:=hFl sb hf;have:=hM.hsb;omega
   ·exact hobn hf.2 hf.1
  ·rintro(hf|hf)
   ·have:=hFl x hf;have:=hM.hx;omega
   ·exact hxn hf.2 hf.1
  ·rcases hb with hb|hb
   ·exact .inl hb
   ·have:=hobl hb.2
    exact .inr ⟨by rw[hb.1];exact hM.hob,by rw[hsz,hb.1];omega⟩
  ·exact .inr ⟨hM.hsb,by rw[hsz];show sb<_;omega⟩
  ·exact .inr ⟨hM.hx,by rw[hsz];show x<_;omega⟩
  ·intro hf
   rcases hfo _ hf with hf|hf
   ·exact notFO _ hM.hsb hf
   ·exact hobn hf.2 hf.1
  ·intro hf
   rcases hfo _ hf with hf|hf
   ·exact notFO _ hM.hx hf
   ·exact hxn hf.2 hf.1
  ·rw[hsz]
   rcases hb with hb|hb
   ·have:=hFl b hb;omega
   ·rw[hsz]at hb;exact hb.2
 ·refine atz hOw λb hb=> ?_
  rcases hb with hb|hb
  ·rw[hb];exact h.gtF.1
  ·exact(h.rowF b hb).1
 ·rcases hh with hh|hh
  ·exact aiz (hM.obj k) hg1 (by decide) hh
  ·have:=hFl ob (h.rowF ob hh).1;have:=hM.hob;omega
theorem InsAt.no {q:PI} (h:InsAt l q i):∀x∈l,(x.t,x.n)≠q:=λx hx e=>by
 obtain⟨k,hk,ek⟩:=List.getElem_of_mem hx
 have hk':l[k]? =some x:=by rw[List.getElem?_eq_getElem hk,ek]
 by_cases hlt:k<i
 ·have:=h.lo k x hlt hk'
  rw[e]at this
  exact aYz _ this
 ·have:=h.hi k x (by omega) hk'
  rw[e]at this
  exact aYz _ this
theorem dAz {α:Type} (l:List α) (o:α) (h:i≤l.length):(l.take i++o::l.drop i).length=l.length+1:=by simp;omega
theorem eEz {α:Type} {l:List α} {o x:α} (h:x∈l):x∈l.take i++o::l.drop i:=by
 rw[← List.take_append_drop i l]at h
 rcases List.mem_append.1 h with h|h
 ·exact List.mem_append.2 (.inl h)
 ·exact List.mem_append.2 (.inr (List.mem_cons_of_mem _ h))
structure Fits (l:List OG) (o:OG) (i:Nat):Prop where
 t1:1≤o.t
 h0:¬o.ot=0
 mak:mkK o=true→o.ot=o.t∧o.on=o.n∧awz o.pt o.pn=false
 at_:InsAt l (o.t,o.n) i
 len:l.length≤700
theorem TWi.view {W:World} (h:TWi F W gt l i) (hf:Fits l o i):
  ∃L v m0 d0 s0 FO U bl dr,SM F FO W gt.b v L U bl dr∧L.map (·.o)=l∧W.heap[gt.b]? =some (.cells #[m0,v,d0,s0,gt.fv,gt.cn] 77 (0,0))∧∀W1 W2 sb x ob y,Made W W1 gt.b o sb x ob→o5z L i v sb y W1 W2→
   TW (ajz F W (W2.setCell ⟨gt.b,1,none⟩ (.slice y.1 y.2.1 y.2.2))) (W2.setCell ⟨gt.b,1,none⟩ (.slice y.1 y.2.1 y.2.2)) gt (l.take i++o::l.drop i)∧Only F W (W2.setCell ⟨gt.b,1,none⟩ (.slice y.1 y.2.1 y.2.2)):=by
 have hno:=hf.at_.no
 have hile:=hf.at_.le
 rcases h with⟨U,bl,dr,h⟩|⟨d,T,s,mb,B,U,bl,dr,hdi,h⟩
 ·obtain⟨FO,kv,L,v,hS,hL,hg,hO⟩:=h.out
  have hll:L.length=l.length:=by rw[← hL,List.length_map]
  have hul:=h.ul
  refine⟨L,v,_,_,_,FO,U,bl,dr,hS,hL,hg,λW1 W2 sb x ob y hM hR=> ?_⟩
  have hmapo:∀e:SR,e.o=o→(L.take i++e::L.drop i).map (·.o)=l.take i++o::l.drop i:=λe he=>by rw[List.map_append,List.map_take,List.map_cons,List.map_drop,hL,he]
  have hgr:∀b,FO b→¬(b=gt.b∨v.ownBlock=some b):=λb hb hh=>by
   rcases hh with hh|hh
   ·exact hS.gtF.2 (by rw[← hh];exact hb)
   ·exact(hS.rowF b hh).2 hb
  by_cases km:mkK o=true
  ·obtain⟨e1,e2,e3⟩:=hf.mak km
   have hq:(o.ot,o.on)∉U:=λhq=>by
    obtain⟨o',ho',e⟩:=(h.uid _ hq).2
    exact hno o' ho' (by rw[← e,e1,e2])
   have hne:∀r∈U,r≠(o.ot,o.on):=λr hr e=>hq (by rw[← e];exact hr)
   obtain⟨a1,a2,a3,a4,a5⟩:=hS.applied (U':=(o.ot,o.on)::U) (bl':=cTz bl (o.ot,o.on) ob) (dr':=exz dr (o.ot,o.on) (decide (o.kd=1))) (FO':=λb=>FO b∨b=ob) hg hM hR hf.h0 hf.mak (by rw[hL];exact hf.at_) (by have:=hf.len;omega)
    (λq hq=>List.mem_cons_of_mem _ hq) (λq hq=>cbz _ _ (hne q hq)) (λq hq=>c9z _ _ (hne q hq)) (λ_=>⟨cZz _ _ _,List.mem_cons_self,g6z _ _ _⟩) (λb hb=>hb.imp id λe=>⟨e,km⟩)
   obtain⟨b1,b2⟩:=a5 km
   have hob:¬FO ob:=λhb=>by have:=hS.low ob (hS.sub ob hb);omega
   have hOf:=(hO.kept a4 hgr).more (q:=(o.ot,o.on)) (dv:=decide (o.kd=1)) hq hob b1 (bNz _) (bNz _) (λr _ p nm e=>by cases e) (λr _ nm e=>by cases e) (by have:=hf.len;omega)
   refine⟨.inl ⟨_,_,_,⟨⟨_,_,_,_,a1,hmapo _ rfl,a2,hOf⟩,λq hq'=> ?_, ?_⟩⟩,a3⟩
   ·rcases List.mem_cons.1 hq' with e|hq'
    ·rw[e]
     refine⟨hf.h0,o,by simp,by rw[e1,e2]⟩
    ·obtain⟨c1,o',ho',c2⟩:=h.uid q hq'
     exact⟨c1,o',eEz ho',c2⟩
   ·rw[dAz _ _ hile];simp only[List.length_cons];omega
  ·obtain⟨a1,a2,a3,a4,a5⟩:=hS.applied (U':=U) (bl':=bl) (dr':=dr) (FO':=FO) hg hM hR hf.h0 hf.mak (by rw[hL];exact hf.at_) (by have:=hf.len;omega)
    (λq hq=>hq) (λq hq=>rfl) (λq hq=>rfl) (λk=>absurd k km) (λb hb=>.inl hb)
   refine⟨.inl ⟨_,_,_,⟨⟨_,_,_,_,a1,hmapo _ rfl,a2,hO.kept a4 hgr⟩,λq hq'=> ?_, ?_⟩⟩,a3⟩
   ·obtain⟨c1,o',ho',c2⟩:=h.uid q hq'
    exact⟨c1,o',eEz ho',c2⟩
   ·rw[dAz _ _ hile];omega
 ·obtain⟨FO,kv,L,v,hS,hL,hg,hD,hM0⟩:=h.out
  have hll:L.length=l.length:=by rw[← hL,List.length_map]
  refine⟨L,v,_,_,_,FO,U,bl,dr,hS,hL,hg,λW1 W2 sb x ob y hM hR=> ?_⟩
  have hmapo:∀e:SR,e.o=o→(L.take i++e::L.drop i).map (·.o)=l.take i++o::l.drop i:=λe he=>by rw[List.map_append,List.map_take,List.map_cons,List.map_drop,hL,he]
  have hgr:∀b,FO b→¬(b=gt.b∨v.ownBlock=some b):=λb hb hh=>by
   rcases hh with hh|hh
   ·exact hS.gtF.2 (by rw[← hh];exact hb)
   ·exact(hS.rowF b hh).2 hb
  have htake:∀e:SR,(L.take i++e::L.drop i).take d=L.take d:=λe=>by
   rw[List.take_append_of_le_length (by rw[List.length_take];omega),List.take_take,Nat.min_eq_left hdi]
  have hdl:d≤(l.take i++o::l.drop i).length:=by rw[dAz _ _ hile];have:=h.dl;omega
  by_cases km:mkK o=true
  ·obtain⟨e1,e2,e3⟩:=hf.mak km
   have hq:(o.ot,o.on)∉U:=λhq=>by
    rcases h.uid _ hq with e|⟨o',ho',e⟩
    ·exact hf.h0 e
    ·exact hno o' ho' (by rw[← e,e1,e2])
   have hne:∀r∈U,r≠(o.ot,o.on):=λr hr e=>hq (by rw[← e];exact hr)
   obtain⟨a1,a2,a3,a4,a5⟩:=hS.applied (U':=(o.ot,o.on)::U) (bl':=cTz bl (o.ot,o.on) ob) (dr':=exz dr (o.ot,o.on) (decide (o.kd=1))) (FO':=λb=>FO b∨b=ob) hg hM hR hf.h0 hf.mak (by rw[hL];exact hf.at_) (by have:=hf.len;omega)
    (λq hq=>List.mem_cons_of_mem _ hq) (λq hq=>cbz _ _ (hne q hq)) (λq hq=>c9z _ _ (hne q hq)) (λ_=>⟨cZz _ _ _,List.mem_cons_self,g6z _ _ _⟩) (λb hb=>hb.imp id λe=>⟨e,km⟩)
   obtain⟨b1,b2⟩:=a5 km
   have hob:¬FO ob:=λhb=>by have:=hS.low ob (hS.sub ob hb);omega
   have hul:U.length+1≤900:=by have:=h.ul;have:=hf.len;omega
   have hMf:=(hM0.kept a4 hgr).more (q:=(o.ot,o.on)) (dv:=decide (o.kd=1)) hq hob b1 hul
   have hDf:=(hD.mono (bl':=cTz bl (o.ot,o.on) ob) (U':=(o.ot,o.on)::U) (λq hq=>cbz _ _ (hne q hq)) λq hq=>List.mem_cons_of_mem _ hq)
   refine⟨.inr ⟨d,T,s,mb,B,_,_,_,⟨⟨_,_,_,_,a1,hmapo _ rfl,a2,by rw[htake];exact hDf,hMf⟩,hdl,h.sd,λq hq'=> ?_,by rw[dAz _ _ hile];have:=h.ul;simp only[List.length_cons];omega⟩⟩,a3⟩
   rcases List.mem_cons.1 hq' with e|hq'
   ·rw[e]
    exact .inr ⟨o,by simp,by rw[e1,e2]⟩
   ·rcases h.uid q hq' with c|⟨o',ho',c2⟩
    ·exact .inl c
    ·exact .inr ⟨o',eEz ho',c2⟩
  ·obtain⟨a1,a2,a3,a4,a5⟩:=hS.applied (U':=U) (bl':=bl) (dr':=dr) (FO':=FO) hg hM hR hf.h0 hf.mak (by rw[hL];exact hf.at_) (by have:=hf.len;omega)
    (λq hq=>hq) (λq hq=>rfl) (λq hq=>rfl) (λk=>absurd k km) (λb hb=>.inl hb)
   refine⟨.inr ⟨d,T,s,mb,B,_,_,_,⟨⟨_,_,_,_,a1,hmapo _ rfl,a2,by rw[htake];exact hD,hM0.kept a4 hgr⟩,hdl,h.sd,λq hq'=> ?_,by rw[dAz _ _ hile];have:=h.ul;omega⟩⟩,a3⟩
   rcases h.uid q hq' with c|⟨o',ho',c2⟩
   ·exact .inl c
   ·exact .inr ⟨o',eEz ho',c2⟩
end Go.Proofs.YthhakekbffembaaGreatDoor.Ck.Y

namespace Go.Proofs.YthhakekbffembaaGreatDoor.Ck.Y
open Go.RowKit Go.Maps Go.Lib
variable {F:Nat→Prop} {w:World} {gt:VB} {l:List OG} {o:OG}
theorem TW.view (h:TW F w gt l):∃L v m0 d0 s0 FO U bl dr,SM F FO w gt.b v L U bl dr∧L.map (·.o)=l∧w.heap[gt.b]? =some (.cells #[m0,v,d0,s0,gt.fv,gt.cn] 77 (0,0)):=by
 rcases h with⟨U,bl,dr,h⟩|⟨d,T,s,mb,B,U,bl,dr,h⟩
 ·obtain⟨FO,kv,L,v,hS,hL,hg,_⟩:=h.out
  exact⟨L,v,_,_,_,FO,U,bl,dr,hS,hL,hg⟩
 ·obtain⟨FO,kv,L,v,hS,hL,hg,_⟩:=h.out
  exact⟨L,v,_,_,_,FO,U,bl,dr,hS,hL,hg⟩
theorem OpIn.below {w':World} {ns:List Int} (h:OpIn w o ns) (hb:Below w.heap.size w w'):OpIn w' o ns:=⟨Cd.below_lies hb h.seen,h.sl,h.sc,h.le,h.dl,h.nm⟩
theorem bnz {W:World} {b:Nat} (h:W.heap[b]? =some (.cells (bhz o) 33 (0,0))) (k:Nat):W.cell? ⟨b,k,none⟩=(bhz o)[k]? :=cellOf h k
def iXz (F:Nat→Prop) (w:World) (gt:VB) (l:List OG) (o:OG) (i:Nat) (w':World):Prop:=TW (ajz F w w') w' gt (l.take i++o::l.drop i)∧Only F w w'
theorem TW.place (h:TW F w gt l) (q:PI):∃(p:Option Addr) (len cp i:Nat) (r:Bool),w.cell? ⟨gt.b,1,none⟩=some (.slice p len cp)∧len=l.length∧i≤l.length∧l.length≤800∧(r=true→∃o∈l,(o.t,o.n)=q)∧(r=false→InsAt l q i)∧
  ∀W,Below w.heap.size w W→Calls Tryz.prog 68 #[.slice p len cp,idv q.1 q.2,.func (.func 69) #[] #[]] W λe w'=>e=.returned (.tuple #[.int .i64 (i:Nat),.bool r])∧Below W.heap.size W w':=by
 obtain⟨L,v,m0,d0,s0,FO,U,bl,dr,hS,hL,hg⟩:=h.view
 obtain⟨i,r,hat,h1,h2⟩:=hS.place q
 obtain⟨p,cp,rfl,_,_,_⟩:=hS.row.form
 have hl:(L.map (·.sb)).length=l.length:=by rw[← hL,List.length_map,List.length_map]
 have hle:=hat.le
 have hs:=hS.search q.1 q.2 hat ⟨_,hg⟩
 rw[hl]at hle hs hg
 rw[hL]at h1 h2
 exact⟨p,l.length,cp,i,r,cellOf hg 1,rfl,hle,by have:=hS.len;rw[← hL,List.length_map];exact this,h1,h2,hs⟩
theorem jOz (h:TW F w gt l) {ns:List Int} (hin:OpIn w o ns) (hm:nmz o ns=true) (hnew:∀x∈l,(x.t,x.n)≠(o.t,o.n)) (hl7:l.length≤700):
  Calls Tryz.prog 27 #[.pointer (some ⟨gt.b,0,none⟩),b2z o] w λe w'=>∃i,e=.returned (.tuple #[.int .i64 ((l.length-i:Nat):Nat),.int .i64 0])∧InsAt l (o.t,o.n) i∧iXz F w gt l o i w':=by
 have hB1:Below w.heap.size w (w.alloc (.cells (bhz o) 33)):=(Below.refl w.heap.size w).alloc (Nat.le_refl _) _
 obtain⟨p,len,cp,i,r,hg1,hlen,hil,hl8,hr1,hr2,hsr⟩:=h.place (o.t,o.n)
 have hr:r=false:=by
  cases r with
  |false=>rfl
  |true=>
   obtain⟨x,hx,e⟩:=hr1 rfl
   exact absurd e (hnew x hx)
 subst hr
 subst hlen
 have hat:=hr2 rfl
 obtain⟨q1,q2,q3⟩:=nVz hm
 have hfits:Fits l o i:=⟨q1,q2,q3,hat,hl7⟩
 have hlow:=h.low
 have hc:Calls Tryz.prog 67 #[b2z o] (w.alloc (.cells (bhz o) 33)) λe w'=>e=.returned (.bool true)∧Hid (Below w.heap.size w w'∧w'.heap[w.heap.size]? =some (.cells (bhz o) 33 (0,0))):=by
  refine(dXz (hin.below hB1)).mono ?_
  rintro e W ⟨rfl,hb⟩
  rw[hm]
  exact⟨rfl,hB1.trans (hb.mono hB1.size),(hb.block _ (by simp)).trans (heap_alloc_new w _)⟩
 have HT:Hid (TW F w gt l∧Fits l o i∧(∀b,F b→b<w.heap.size)∧o.nm.size≤1000000∧InsAt l (o.t,o.n) i):=⟨h,hfits,hlow,hin.nm,hat⟩
 clear h hin hm hB1 hr1 hr2 hnew hat hfits hlow q1 q2 q3
 go_enter Tryz.func27,Tryz.ntmps27
 go_wp2_with (go_at_call 67;refine hc.mono ?_;rintro e W ⟨rfl,HR⟩;clear hc)
 have g1:W.cell? ⟨gt.b,1,none⟩=some (.slice p l.length cp):=(HR.out.1.cell (p:=⟨gt.b,1,none⟩) (a4z hg1)).trans hg1
 have x0:W.cell? ⟨w.heap.size,0,none⟩=some (.int .i64 o.t):=bnz HR.out.2 0
 have x1:W.cell? ⟨w.heap.size,1,none⟩=some (.int .i64 o.n):=bnz HR.out.2 1
 refine lSz (by kernel_rfl) gt.b w.heap.size l.length cp i false p o.t o.n _ rfl rfl rfl g1 x0 x1 (λW' hW'=>hsr W' (HR.out.1.trans (hW'.mono HR.out.1.size))) ?_
 intro W3 hB3
 have HB:Hid (Below w.heap.size w W3∧W3.heap[w.heap.size]? =some (.cells (bhz o) 33 (0,0))):=⟨HR.out.1.trans (hB3.mono HR.out.1.size),(hB3.block _ (block_lt HR.out.2)).trans HR.out.2⟩
 have g3:W3.cell? ⟨gt.b,1,none⟩=some (.slice p l.length cp):=(hB3.cell (p:=⟨gt.b,1,none⟩) (a4z g1)).trans g1
 have hu:=lVz (HT.out.1.below HB.out.1) i (by omega)
 have hsub:(i:Int)≤(l.length:Int):=by omega
 clear hB3 g1 x0 x1 hsr hg1 HR
 simp only[abz,sA,sB,sC]
 go_wp2_with (go_at_call 70;refine hu.mono ?_;rintro e W4 ⟨rfl,HU⟩;clear hu g3)
 obtain⟨L,v,m0,d0,s0,FO,U,bl,dr,hS,hL,hg,hfin⟩:=HU.out.1.view HT.out.2.1
 have hbx:W4.heap[w.heap.size]? =some (.cells (bhz o) 33 (0,0)):=(HU.out.2.block _ (block_lt HB.out.2) (λe=>by have:=HT.out.2.2.1 _ e;omega)).trans HB.out.2
 obtain⟨p4,c4,rfl,_,_,_⟩:=hS.row.form
 have hsl:(L.map (·.sb)).length=L.length:=List.length_map _
 have hLl:L.length=l.length:=by rw[← hL,List.length_map]
 have k1:W4.cell? ⟨gt.b,1,none⟩=some (.slice p4 (L.map (·.sb)).length c4):=cellOf hg 1
 have hdr:Below W4.heap.size W4 W4.drew:=⟨rfl,rfl,rfl,Nat.le_refl _,λ_ _=>rfl⟩
 refine lMz (by kernel_rfl) gt.b w.heap.size (L.map (·.sb)).length c4 i p4 o (λsb W1=>∃x ob,Made W4 W1 gt.b o sb x ob) (λsb y W1 W2=>(∃x ob,Made W4 W1 gt.b o sb x ob)∧o5z L i (.slice p4 (L.map (·.sb)).length c4) sb y W1 W2) _ rfl rfl rfl rfl k1 (bnz hbx 0) (bnz hbx 1) (bnz hbx 2) (bnz hbx 3) (bnz hbx 4) (bnz hbx 5) (bnz hbx 6) (bnz hbx 7) (bnz hbx 8) (bnz hbx 9) (bnz hbx 10) ?_ ?_ ?_ ?_ ?_
 ·refine(ikz gt.b o W4.drew HT.out.2.2.2.1).mono ?_
  rintro e W1 ⟨sb,x,ob,rfl,hM⟩
  exact⟨sb,rfl,x,ob,chz hM.bel,hM.hsb,hM.hx,hM.hob,hM.xl,hM.obj,hM.st⟩
 ·rintro sb W1 ⟨x,ob,hM⟩
  exact(hM.bel.cell (p:=⟨gt.b,1,none⟩) (a4z k1)).trans k1
 ·rintro sb W1 ⟨x,ob,hM⟩
  have hr1:=hS.row.below hM.bel
  have hBa:Below W1.heap.size W1 (W1.alloc (.cells #[.pointer (some ⟨sb,0,none⟩)] 117)):=(Below.refl W1.heap.size W1).alloc (Nat.le_refl _) _
  refine(hmz 0 i W1.heap.size _ (L.map (·.sb)) sb (W1.alloc (.cells #[.pointer (some ⟨sb,0,none⟩)] 117)) (hr1.below hBa) (by rw[hsl];omega) (by rw[hsl];omega) (Nat.zero_le _) (heap_alloc_new W1 _) (λe=>by have:=(hr1.tag e).2.1;omega)).mono ?_
  rintro e W2 ⟨v',rfl,hv1,hv2,hv3⟩
  obtain⟨p',c',rfl,_,_,_⟩:=hv1.form
  exact⟨(p',_,c'),rfl,⟨x,ob,hM⟩,hv1,hv2,hv3⟩
 ·rintro sb y W1 W2 ⟨⟨x,ob,hM⟩,hR⟩
  have hg1:=(hM.bel.block _ (block_lt hg)).trans hg
  have hga:=(((Below.refl W1.heap.size W1).alloc (Nat.le_refl _) (.cells #[.pointer (some ⟨sb,0,none⟩)] 117)).block _ (block_lt hg1)).trans hg1
  have hg2:=((b5z hR.2.1).block _ (block_lt hga) (λe=>by
   obtain⟨_,_,cur,ht⟩:=hS.row.tag e
   exact aiz hg ht (by decide) rfl)).trans hga
  exact⟨by rw[cellOf hg2 1];rfl,aez hg2 1⟩
 ·rintro⟨sb,y,W1,W2⟩ Wf ⟨⟨_,⟨x,ob,hM⟩,hR⟩,rfl⟩
  obtain⟨f1,f2⟩:=hfin W1 W2 sb x ob y hM hR
  have HF:Hid (iXz F w gt l o i (W2.setCell ⟨gt.b,1,none⟩ (.slice y.1 y.2.1 y.2.2))):=by
   have z1:=HB.out.1.size
   have z2:=HU.out.2.size
   have z3:=f2.size
   have hO:Only F w W4:=(Below.only HB.out.1 F).next HU.out.2
   refine⟨?_,hO.trans f2 λj hj=> ?_⟩
   ·have key:∀b,ajz (ajz F W3 W4) W4 (W2.setCell ⟨gt.b,1,none⟩ (.slice y.1 y.2.1 y.2.2)) b→ajz F w (W2.setCell ⟨gt.b,1,none⟩ (.slice y.1 y.2.1 y.2.2)) b:=λb hb=>by
     rcases hb with(hb|hb)|hb
     ·exact .inl hb
     ·exact .inr ⟨by omega,by omega⟩
     ·exact .inr ⟨by omega,hb.2⟩
    have low:∀b,ajz F w (W2.setCell ⟨gt.b,1,none⟩ (.slice y.1 y.2.1 y.2.2)) b→b<(W2.setCell ⟨gt.b,1,none⟩ (.slice y.1 y.2.1 y.2.2)).heap.size:=λb hb=>by
     rcases hb with hb|hb
     ·have:=HT.out.2.2.1 b hb;omega
     ·exact hb.2
    rcases f1 with⟨U,bl,dr,hn⟩|⟨d,T,s,mb,B,U,bl,dr,hn⟩
    ·obtain⟨FO,kv,L,v,hS,hr⟩:=hn.out
     exact .inl ⟨U,bl,dr,⟨FO,kv,L,v,hS.mono key low,hr⟩,hn.uid,hn.ul⟩
    ·exact .inr ⟨d,T,s,mb,B,U,bl,dr,hn.mono key low⟩
   ·rcases hj with hj|hj
    ·exact .inl hj
    ·exact .inr (by omega)
  clear f1 f2 hfin hM hR hS hL hg hbx hsl hLl k1 hdr
  simp only[abz,sA,sB,sC]
  go_wp2_with fail
  go_ret2
  refine⟨i, ?_,HT.out.2.2.2.2,HF.out⟩
  have e:((l.length-i:Nat):Int)=(l.length:Int)-(i:Int):=by omega
  rw[e]
  rfl
end Go.Proofs.YthhakekbffembaaGreatDoor.Ck.Y
