import Derived.Test.YthhakekbffembaaGreatDoorCards
import Derived.Test.YthhakekbffembaaGreatDoorTie
import Derived.Test.YthhakekbffembaaGreatDoorQEvq
import Derived.Test.YthhakekbffembaaGreatDoorKAshelfb
import Derived.ProofKit
import Derived.OpenShut
import Derived.ChangeOld
import Derived.Deep.Slices
import Derived.Deep.Grids
import Derived.Deep.DeepHandedRow
import Derived.Lib.LaidTab
import Derived.LaidMore
import Derived.SizedLaws
import Derived.Stop.LaidErr
set_option maxRecDepth 8000
set_option maxHeartbeats 4000000

namespace Go.Proofs.YthhakekbffembaaGreatDoor
open Go.ChangeShapes Go.WideShapes Go.ChangeAt Go.RowKit Go.Deep
theorem own:ownKnob Tryz.prog.godebug=none:=by kernel_rfl
theorem laidOut:laidOutB Tryz.prog=true:=by kernel_rfl
theorem oxz:Tryz.prog.globalNamed "internal/strconv.uint64pow10" =some 3:=by kernel_rfl
theorem lZz:(Tryz.prog.globals[3]?).map (·.type)=some 264:=by kernel_rfl
theorem lUz:Tryz.prog.cellsOf 264=20:=by kernel_rfl
theorem lHz:Tryz.prog.cellsOf 186=1:=by kernel_rfl
theorem oqz:Tryz.prog.globalNamed "strconv.ErrSyntax" =some 1:=by kernel_rfl
theorem mcz:(Tryz.prog.globals[1]?).map (·.type)=some 203:=by kernel_rfl
theorem omz:Tryz.prog.globalNamed "strconv.ErrRange" =some 2:=by kernel_rfl
theorem loz:(Tryz.prog.globals[2]?).map (·.type)=some 203:=by kernel_rfl
theorem iLz:Tryz.prog.cellsOf 269=1:=by kernel_rfl
theorem iTz:Tryz.prog.cellsOf 9=1:=by kernel_rfl
theorem j6z: "*" ++ "errors.errorString" = "*errors.errorString" :=by decide
theorem lgz (u:TypeId) (h:Tryz.prog.typeName? 3 u=some "*errors.errorString"):u=267:=
 typeName_ptr_named (nm:= "errors.errorString") (by rw[j6z];kernel_rfl) (by kernel_rfl) (by decide) u (by rw[j6z];exact h)
theorem iyz {W:World} (h:laidMetH Tryz.prog Rows.viewNoneRow.laid W) (hsh:W.ShapedOpen Tryz.prog):Ck.Sh.Lb W:=by
 have h3:=laidMet.tail (laidMet.tail h)
 have h4:=laidMet.tail h3
 have h5:=laidMet.tail h4
 have ht:Lib.TabIs Tryz.prog W "internal/strconv.uint64pow10" .u64 Lib.pow10Tab:=
  Lib.tabIs_of_head oxz lZz Tryz.underlying264 Tryz.underlying186 lHz lUz h3
 obtain⟨a4,s4,hv4,-,-,-⟩:=laid_sentinel h4 omz loz Tryz.underlying203 lgz Tryz.underlying267 Tryz.underlying269 rfl rfl Tryz.underlying9 iLz iTz
 obtain⟨a5,s5,hv5,-,-,-⟩:=laid_sentinel h5 oqz mcz Tryz.underlying203 lgz Tryz.underlying267 Tryz.underlying269 rfl rfl Tryz.underlying9 iLz iTz
 have h0:=World.var?_cell oqz hv5 0
 have h1:=World.var?_cell omz hv4 0
 exact⟨ht,⟨267,.pointer (some a5),by simpa using h0⟩,⟨267,.pointer (some a4),by simpa using h1⟩,Tryz.laysM145.s1_3 W hsh⟩
end Go.Proofs.YthhakekbffembaaGreatDoor

namespace Go.Proofs.YthhakekbffembaaGreatDoor.Ck.Y.W
open Go.RowKit Go.Maps Go.Lib
open L (a2z a6z anz a5z)
open Sh (bas Ids Nms strs bIz InI Cs)
structure NaS (J:World→Prop) (lo:Nat) (po:Option Addr) (k co:Nat) (xs:List Value) (nm:ByteArray) (b20 b21:Bool) (gb:Nat) (v:Value) (W:World):Prop where
 j:J W
 own:b21=false→W.ownsRow lo 9 1 (.slice po k co) k xs
 row:b20=true→b21=false→W.heap[gb]? =some (.cells #[.string nm] 9 (0,0))
 app:b21=true→(∃p c,v=.slice p (k+1) c)∧W.ownsRow lo 9 1 v (k+1) (xs++[.string nm])
theorem NaS.below {J:World→Prop} {lo:Nat} {po:Option Addr} {k co:Nat} {xs:List Value} {nm:ByteArray} {b20 b21:Bool} {gb:Nat} {v:Value} {W W':World} (h:NaS J lo po k co xs nm b20 b21 gb v W) (hJ:J W') (hb:Below W.heap.size W W'):NaS J lo po k co xs nm b20 b21 gb v W':=
 ⟨hJ,λe=>Sh.own_below (h.own e) hb,λe f=>(hb.block _ (block_lt (h.row e f))).trans (h.row e f),λe=>⟨(h.app e).1,Sh.own_below (h.app e).2 hb⟩⟩
theorem na6 {Q:Exit→Act→World→Prop} {base:Array Value} {dd:List Deferred} {ops:Array Oper} (hops:Tryz.f46.body.bind (alz 6)=some ops) (J:World→Prop) (vv gt gl gi lo m cl K ck k co i j:Nat) (po:Option Addr) (xs:List Value) (q1 q2:Int) (nm:ByteArray) (w9:World) (hsz:base.size=47) (b0:base.getD 0 undef=pO vv) (b6:base.getD 6 undef=.slice (some ⟨gi,0,none⟩) K ck) (b7:base.getD 7 undef=.slice po k co) (b8:base.getD 8 undef=iV i) (hik:(i:Int)<(K:Int)) (hjm:(j:Int)<(m:Int)) (hkk:k≤1000000) (hJ:J w9.drew) (hown:w9.drew.ownsRow lo 9 1 (.slice po k co) k xs) (hlo:∀W,J W→lo≤W.heap.size) (hJb:∀W W',J W→Below W.heap.size W W'→J W') (hJg:∀W W',J W→W.ownsRow lo 9 1 (.slice po k co) k xs→W.grownBy W' (Value.slice po k co).ownBlock→J W') (hv:∀W,J W→W.cell? ⟨vv,1,none⟩=some (pO gt)) (hg:∀W,J W→W.cell? ⟨gt,0,none⟩=some (.slice (some ⟨gl,0,none⟩) m cl)) (hn:∀W,J W→W.cell? ⟨gl,j*6+4,none⟩=some (.string nm)) (hid:∀W,J W→W.cell? ⟨gi,i*2,none⟩=some (iV q1)∧W.cell? ⟨gi,i*2+1,none⟩=some (iV q2)) (hc:∀W,J W→Calls Tryz.prog 14 #[pO gt,.agg #[iV q1,iV q2]] W λe w'=>e=.returned (iV j)∧Below W.heap.size W w') (hQ:∀(g:Nat×Value) (W:World),J W→(∃p c,g.2=.slice p (k+1) c)→W.ownsRow lo 9 1 g.2 (k+1) (xs++[.string nm])→Q .normal ⟨abz base ((λg:Nat×Value=>([(some 21,.slice po k co),(some 22,pO vv),(some 23,pO vv),(some 24,.pointer (some ⟨vv,1,none⟩)),(some 25,pO gt),(some 26,pO gt),(some 27,pO gt),(some 28,.slice (some ⟨gl,0,none⟩) m cl),(some 29,pO vv),(some 30,pO vv),(some 31,.pointer (some ⟨vv,1,none⟩)),(some 32,pO gt),(some 33,.slice (some ⟨gi,0,none⟩) K ck),(some 34,iV i),(some 35,.pointer (some ⟨gi,i*2,none⟩)),(some 36,.agg #[iV q1,iV q2]),(some 37,iV j),(some 38,.pointer (some ⟨gl,j*6,none⟩)),(some 39,.pointer (some ⟨gl,j*6+4,none⟩)),(some 40,.string nm),(some 41,.slice (some ⟨g.1,0,none⟩) 1 1),(some 42,g.2),(some 7,g.2)]:List (Option Tmp×Value))) g),dd⟩ W):
  (Code.region 6 ops true).wp Tryz.prog Q ⟨base,dd⟩ w9:=by
 have hmix:=hmx
 have h3:=(show Tryz.f46.body.bind (alz 6)=some _ from rfl).symm.trans hops
 obtain rfl:=Option.some.inj h3
 clear h3 hops
 obtain⟨LL,hLe⟩:∃LL:Nat×Value→List (Option Tmp×Value),LL=(λg:Nat×Value=>([(some 21,.slice po k co),(some 22,pO vv),(some 23,pO vv),(some 24,.pointer (some ⟨vv,1,none⟩)),(some 25,pO gt),(some 26,pO gt),(some 27,pO gt),(some 28,.slice (some ⟨gl,0,none⟩) m cl),(some 29,pO vv),(some 30,pO vv),(some 31,.pointer (some ⟨vv,1,none⟩)),(some 32,pO gt),(some 33,.slice (some ⟨gi,0,none⟩) K ck),(some 34,iV i),(some 35,.pointer (some ⟨gi,i*2,none⟩)),(some 36,.agg #[iV q1,iV q2]),(some 37,iV j),(some 38,.pointer (some ⟨gl,j*6,none⟩)),(some 39,.pointer (some ⟨gl,j*6+4,none⟩)),(some 40,.string nm),(some 41,.slice (some ⟨g.1,0,none⟩) 1 1),(some 42,g.2),(some 7,g.2)]:List (Option Tmp×Value))):=⟨_,rfl⟩
 have vv:=λg=>aV (congrFun hLe g)
 simp only[AV,Nat.zero_add,Nat.reduceAdd,and_true,forall_and]at vv
 obtain⟨vv0,vv1,vv2,vv3,vv4,vv5,vv6,vv7,vv8,vv9,vv10,vv11,vv12,vv13,vv14,vv15,vv16,vv17,vv18,vv19,vv20,vv21,vv22⟩:=vv
 refine axz hmix (by kernel_rfl) 47 hsz (by kernel_rfl) ((0,undef):Nat×Value) LL (λg=>by rw[hLe];rfl) (λ(g:Nat×Value) (b:Nat→Bool) (W:World)=>NaS J lo po k co xs nm (b 20) (b 21) g.1 g.2 W) ⟨hJ,λ_=>hown,(λh _=>by cases h),(λh=>by cases h)⟩ ?_ ?_
 ·rintro g b W io Oo a hS hcl ho hb hd ev kp yl
  have Vv:=aV (congrFun hLe g);have Ee:=aE (congrFun hLe g) rfl ev
  have es0:a.tmps[0]?.getD undef=pO vv:=(kp 0 (aqz (by kernel_rfl))).trans b0
  have es6:a.tmps[6]?.getD undef=.slice (some ⟨gi,0,none⟩) K ck:=(kp 6 (aqz (by kernel_rfl))).trans b6
  have es8:a.tmps[8]?.getD undef=iV i:=(kp 8 (aqz (by kernel_rfl))).trans b8
  simp only[AV,AE,Nat.zero_add,Nat.reduceAdd,and_true]at Vv Ee
  match io with
  |1|2|3|5|6|8|9|10|12|13|14|17|18|22=>simp only[qq]at ho;subst ho;have hd:=aD hd;simp only[AD,and_true]at hd;refine a9z rfl nofun ?_ ⟨g,λ_ _=>rfl,rfl,by simpa[did]using hS⟩;simp only[Vv];simp[execOp,go_sem,Ee,es0,es6,es8,hd,hik,hjm]
  |4|11=>simp only[qq]at ho;subst ho;have hd:=aD hd;simp only[AD,and_true]at hd;have d0:=hv W hS.j;refine a9z rfl nofun ?_ ⟨g,λ_ _=>rfl,rfl,by simpa[did]using hS⟩;simp only[Vv];simp[execOp,go_sem,Ee,d0,hd]
  |7=>simp only[qq]at ho;subst ho;have hd:=aD hd;simp only[AD,and_true]at hd;have d0:=hg W hS.j;refine a9z rfl nofun ?_ ⟨g,λ_ _=>rfl,rfl,by simpa[did]using hS⟩;simp only[Vv];simp[execOp,go_sem,Ee,d0,hd]
  |19=>simp only[qq]at ho;subst ho;have hd:=aD hd;simp only[AD,and_true]at hd;have d0:=hn W hS.j;refine a9z rfl nofun ?_ ⟨g,λ_ _=>rfl,rfl,by simpa[did]using hS⟩;simp only[Vv];simp[execOp,go_sem,Ee,d0,hd]
  |0=>
   simp only[qq]at ho;subst ho
   have es7:a.tmps[7]?.getD undef=.slice po k co:=(kp 7 (λjj hj=>by
    match jj,hj with
    |0,h|1,h|2,h|3,h|4,h|5,h|6,h|7,h|8,h|9,h|10,h|11,h|12,h|13,h|14,h|15,h|16,h|17,h|18,h|19,h|20,h|21,h=>exact absurd h (by decide+kernel)
    |22,_=>
     cases h:b 22 with
     |false=>rfl
     |true=>have:=hcl 22 _ rfl h ⟨0,.phase⟩ (by simp) rfl;rw[hb]at this;cases this
    |jj+23,h=>simp[arz]at h)).trans b7
   refine a9z rfl nofun (v:=.slice po k co) (w':=W) ?_ ⟨g,λ_ _=>rfl,(vv0 g).symm,(by simpa[did]using hS)⟩
   simp[execOp,go_sem,es7]
  |15=>
   simp only[qq]at ho;subst ho;have e14:=eD ev hd 14 35 (vv14 g)
   obtain⟨d0,d1⟩:=hid W hS.j
   refine a9z rfl nofun (v:=.agg #[iV q1,iV q2]) (w':=W) ?_ ⟨g,λ_ _=>rfl,(vv15 g).symm,(by simpa[did]using hS)⟩
   simp[execOp,go_sem,e14,d0,d1]
  |16=>
   simp only[qq]at ho;subst ho;have e11:=eD ev hd 11 32 (vv11 g);have e15:=eD ev hd 15 36 (vv15 g)
   refine aLz rfl nofun (f:=14) (args:= #[pO gt,.agg #[iV q1,iV q2]]) ?_ ?_
   ·simp[go_sem,e11,e15]
   ·refine(hc W hS.j).mono ?_
    rintro e W' ⟨rfl,hb'⟩
    exact⟨_,rfl,g,λ_ _=>rfl,(vv16 g).symm,(by simpa[did]using hS.below (hJb _ _ hS.j hb') hb')⟩
  |20=>
   simp only[qq]at ho;subst ho;have e19:=eD ev hd 19 40 (vv19 g);have hbn:=(a3z W (.cells #[.string nm] 9)).out
   have h21:b 21=false:=by
    cases h:b 21 with
    |false=>rfl
    |true=>have:=hcl 21 _ rfl h ⟨20,.data⟩ (by simp) rfl;rw[hb]at this;cases this
   refine a9z rfl nofun (v:=.slice (some ⟨W.heap.size,0,none⟩) 1 1) (w':=W.alloc (.cells #[.string nm] 9)) ?_ ⟨(W.heap.size,g.2), ?_,(by rw[vv20]), ?_⟩
   ·simp[execOp,go_sem,e19]
   ·intro x hx
    match x,hx with
    |20,h=>rw[hb]at h;cases h
    |x+23,_=>rw[hLe];rfl
    |0,_|1,_|2,_|3,_|4,_|5,_|6,_|7,_|8,_|9,_|10,_|11,_|12,_|13,_|14,_|15,_|16,_|17,_|18,_|19,_|21,_|22,_=>subst hLe;rfl
   ·have hS':=hS.below (hJb _ _ hS.j hbn) hbn
    refine⟨hS'.j,λe=>hS'.own h21,λ_ _=>heap_alloc_new W _,λe=> ?_⟩
    rw[show did b 20 21=b 21 from if_neg (by decide),h21]at e
    cases e
  |21=>
   simp only[qq]at ho;subst ho;have e0:=eD ev hd 0 21 (vv0 g);have p20:=hD hd 20;have e20:=(ev 20 41 rfl p20).trans (vv20 g);have hrow:=hS.row p20 hb;have hown':=hS.own hb
   obtain⟨p',c',w',hr,ho',hgr⟩:=Sh.app_run Tryz.underlying53 Sh.ti_str 53 W lo (.slice po k co) k 1 xs [.string nm] (some ⟨g.1,0,none⟩) 1 hown' (λx u hx=>by
    match x,hx with
    |0,hx=>
     obtain rfl:=Option.some.inj hx
     exact⟨g.1,0,rfl,cellOf hrow 0⟩
    |x+1,hx=>simp at hx) rfl (λu hu=>by rw[List.mem_singleton.1 hu];rfl) (by omega) (by omega) (hlo W hS.j)
   refine a9z rfl nofun (v:=.slice p' (k+1) c') (w':=w') ?_ ⟨(g.1,.slice p' (k+1) c'), ?_,(by rw[vv21]), ?_⟩
   ·simp only[execOp,resolve,invoke,builtin,Sem.run_bind,Sem.run_pure,Result.andThen_ok,List.map_toArray,List.map_cons,List.map_nil,(show a.eval (.tmp 21)=a.tmps[21]?.getD undef by simp[Act.eval]).trans e0,(show a.eval (.tmp 41)=a.tmps[41]?.getD undef by simp[Act.eval]).trans e20,hr]
   ·intro x hx
    match x,hx with
    |21,h=>rw[hb]at h;cases h
    |22,h=>have:=hcl 22 _ rfl h ⟨21,.data⟩ (by simp) rfl;rw[hb]at this;cases this
    |x+23,_=>rw[hLe];rfl
    |0,_|1,_|2,_|3,_|4,_|5,_|6,_|7,_|8,_|9,_|10,_|11,_|12,_|13,_|14,_|15,_|16,_|17,_|18,_|19,_|20,_=>subst hLe;rfl
   ·refine⟨hJg _ _ hS.j hown' hgr,λe=> ?_,λ_ e=> ?_,λ_=>⟨⟨p',c',rfl⟩,ho'⟩⟩
    ·rw[show did b 21 21=true from if_pos rfl]at e;cases e
    ·rw[show did b 21 21=true from if_pos rfl]at e;cases e
  |x+23=>simp at ho
 ·rintro g b W hS hall
  subst hLe
  exact hQ g W hS.j (hS.app (hall 21 (by decide))).1 (hS.app (hall 21 (by decide))).2
end Go.Proofs.YthhakekbffembaaGreatDoor.Ck.Y.W
