import Derived.Test.YthhakekbffembaaGreatDoorQEvn
set_option maxRecDepth 8000
set_option maxHeartbeats 4000000

namespace Go.Proofs.YthhakekbffembaaGreatDoor.Ck.Y.W
open Go.RowKit Go.Maps Go.Lib Go.Sort
open L (a2z a6z anz a5z IsHd aRz)
open Sh (bas Ids Nms strs bIz InI Cs ShI)
def xy:List UInt8:=[120,121]
def vo1:OG:=⟨4,1,1,2,4,1,0,0,⟨#[102]⟩,none,0,0,none,0,0⟩
def vo2 (gd cd gs cs:Nat):OG:=⟨5,1,2,4,4,1,0,0,⟨#[]⟩,some ⟨gd,0,none⟩,2,cd,some ⟨gs,0,none⟩,2,cs⟩
def vns (o:OG):List Int:=if o.kd=4 then[0,1]else[]
def vbs (o:OG):List (BitVec 8):=if o.kd=4 then Cd.bvs xy else[]
def vT:List OB:=[⟨4,1,0,0,⟨#[102]⟩,false⟩]
def vvc:L.VC:=⟨5,1,2,[0,1],Cd.bvs xy⟩
def vHC (q:PI):List L.VC:=if(4,1)=q then[vvc]else[]
section
variable {gd cd gs cs:Nat}
theorem nBz:L.mayW vo1 (vns vo1)=true:=by kernel_rfl
theorem nxz:L.mayW (vo2 gd cd gs cs) (vns (vo2 gd cd gs cs))=true:=by show Cd.mayO 5 1 2 4 4 1 0 0 [] 2 [0,1]=true;decide+kernel
theorem nFz:FoldT [] 0 [vo1,vo2 gd cd gs cs] vT 0:=.cons (StepT.make (.inr rfl) rfl rfl rfl) (.cons (StepT.other (by show ¬((4:Int)=1∨(4:Int)=2∨(4:Int)=3);decide)) (.nil _ _))
theorem lBz:TOk [vo1,vo2 gd cd gs cs] vT 0:=l8z (λo ho=>by
 simp only[List.mem_cons,List.not_mem_nil,or_false]at ho
 rcases ho with rfl|rfl
 ·exact⟨_,nBz⟩
 ·exact⟨_,nxz⟩) nFz
theorem ozz {ls:List OG} (h:Srt ls ([]++[vo1]++[vo2 gd cd gs cs])):ls=[vo1,vo2 gd cd gs cs]:=h.unique ⟨by
 simp only[List.pairwise_cons,List.mem_cons,List.not_mem_nil,or_false,forall_eq,false_implies,implies_true,List.Pairwise.nil,and_true]
 show lessB 4 1 5 1=true
 rfl,List.Perm.refl _⟩
theorem itz:(true:Bool)=true↔((4:Int)=0∧(1:Int)=0)∨Bel vT (4,1) (0,0):=⟨λ_=>.inr (.one rfl),λ_=>rfl⟩
theorem obz:(true:Bool)=true↔((0:Int)=0∧(0:Int)=0)∨Bel vT (0,0) (0,0):=⟨λ_=>.inl ⟨rfl,rfl⟩,λ_=>rfl⟩
theorem jez:aAz vT 4 1=false:=by kernel_rfl
theorem nzz:aAz vT 0 0=true:=by kernel_rfl
theorem nDz:IsKids vT 0 0 [(4,1)]:=⟨List.Perm.refl _,by simp⟩
theorem o1z:bDz vT (0,0)=[(4,1)]:=(dEz (lBz (gd:=0) (cd:=0) (gs:=0) (cs:=0)).wf (0,0)).unique nDz
theorem orz:aHz vT (0,0) [[102]]=((4,1),0):=by
 unfold aHz
 rw[if_pos nzz,o1z]
 have:bAz [(4,1)] (nmT vT) [102]=some (4,1):=by decide+kernel
 rw[this]
 rfl
theorem k0z (q:PI):vsq vns vbs ([]++[vo1]++[vo2 gd cd gs cs]) q=vHC q:=by
 unfold vHC
 by_cases h:((4:Int),(1:Int))=q
 ·rw[if_pos h];subst h;rfl
 ·rw[if_neg h]
  unfold vsq
  have:([]++[vo1]++[vo2 gd cd gs cs]).filter (wOf q)=[]:=by
   simp only[List.nil_append,List.cons_append,List.filter_cons,List.filter_nil]
   rw[if_neg,if_neg]
   ·intro e;exact h (of_decide_eq_true e)
   ·intro e;exact h (of_decide_eq_true e)
  rw[this]
  rfl
theorem nSz (q:PI):∀x∈vHC q,1≤x.sq:=λx hx=>by
 unfold vHC at hx
 split at hx
 ·rw[List.mem_singleton.1 hx];decide
 ·simp at hx
theorem vhd (q:PI):IsHd (vHC q) (vHC q):=by
 unfold vHC
 split
 ·refine⟨by simp,λx=>⟨λhx=>⟨hx, ?_⟩,λhx=>hx.1⟩⟩
  rw[List.mem_singleton.1 hx]
  decide+kernel
 ·exact L.hd_nil
def vEn:EnF:=λ_=>((4,1),false,2)
theorem ven:∀i q,([(4,1)]:List PI)[i]? =some q→vEn (Sh.shownAt [(4,1)] ([(4,1)].map (nmT vT)) 1 i)=(q,aAz vT q.1 q.2,szE (aAz vT q.1 q.2) (vHC q)):=λi q h=>by
 match i,h with
 |0,h=>
  obtain rfl:=Option.some.inj h
  decide+kernel
 |i+1,h=>simp at h
theorem nXz:Sh.shownL [(4,1)] ([(4,1)].map (nmT vT)) 1=[[102]]:=by decide+kernel
theorem otz:mdz 4 1 true false (vHC (4,1))=(.agg #[.int .i64 4,.int .i64 1,.bool false,.int .i64 2,.int .i64 1],0):=rfl
theorem onz:Cd.strOf (aRz (vHC (4,1)))=⟨#[120,121]⟩:=by decide+kernel
end
end Go.Proofs.YthhakekbffembaaGreatDoor.Ck.Y.W

namespace Go.Proofs.YthhakekbffembaaGreatDoor.Ck.Y.W
open Go.RowKit Go.Maps Go.Lib Go.Sort
open L (a2z a6z anz a5z IsHd aRz)
open Sh (bas Ids Nms strs bIz InI Cs ShI)
structure VB1 (w:World) (F:Nat→Prop) (vb ib:Nat) (w2:World):Prop where
 vw:VW F w2 vb vns vbs ([]++[vo1]) [vo1]
 lo:∀b,F b→w.heap.size≤b
 bel:Below w.heap.size w w2
 box:w2.heap[ib]? =some (.cells #[.int .i64 4,.int .i64 1] 28 (0,0))
theorem kcz {w w1:World} {vb:Nat} (hvb:w.heap.size=vb) (h:Below vb w w1∧∀nsf bsf,VW (· =vb) w1 vb nsf bsf [] []):
  Calls Tryz.prog 9 #[.pointer (some ⟨vb,0,none⟩),b2z vo1] (w1.alloc (.cells #[.int .i64 4,.int .i64 1] 28)) λe w2=>e=.returned (.int .i64 0)∧Hid (∃F,VB1 w F vb w1.heap.size w2):=by
 have hb:=a3z w1 (.cells #[.int .i64 4,.int .i64 1] 28)
 have hst:Stays (· =vb) (w1.alloc (.cells #[.int .i64 4,.int .i64 1] 28)) vo1 (vns vo1) (vbs vo1):=λW _=>
  ⟨λh=>absurd h (by simp[vns,vo1]),rfl,Nat.le_refl _,by decide,λh=>absurd h (by simp[vbs,vo1]),rfl,Nat.le_refl _,by decide,by decide⟩
 refine(((h.2 vns vbs).below hb.out).apply hst nBz (λx hx=>by simp at hx) (Nat.zero_le _)).mono ?_
 rintro e w2 ⟨rfl,ls,F,k1,k2,k3,k4⟩
 have e1:ls=[vo1]:=k1.srt.unique ⟨by simp,List.Perm.refl _⟩
 subst e1
 have hs:=hb.out.size
 have hs1:=h.1.size
 refine⟨rfl,F,k1,λb hb'=> ?_, ?_,k4.at (heap_alloc_new w1 _) (by decide)⟩
 ·rcases k2 b hb' with e|e
  ·rw[show b=vb from e];omega
  ·omega
 ·rw[hvb]
  exact(h.1.trans (hb.out.mono (by omega))).trans (k3.below (by omega) λb e=>by have:b=vb:=e;omega)
theorem VW.read1 {F:Nat→Prop} {w:World} {vb s:Nat} {nsf:OG→List Int} {bsf:OG→List (BitVec 8)} {m ls:List OG} {T:List OB} (h:VW F w vb nsf bsf m ls) (hT:TOk ls T s) (t n:Int) {lv:Bool} (hlv:lv=true↔(t=0∧n=0)∨Bel T (t,n) (0,0)) (hq:∀q,∀x∈vsq nsf bsf m q,1≤x.sq) {HC:List L.VC} (hs:IsHd (bCz nsf bsf m t n lv (aAz T t n)) HC):
  Calls Tryz.prog 22 #[.pointer (some ⟨vb,0,none⟩),idv t n] w λe w'=>∃v w1,e=.returned (.tuple #[v,.int .i64 (iJz lv (aAz T t n))])∧w'.ownsRow w1.heap.size 5 1 v (aRz HC).length ((aRz HC).map Cd.u8v)∧VJ w F vb nsf bsf m ls w1∧Below w1.heap.size w1 w':=by
 have HB:Hid (Below w.heap.size w (w.alloc (.cells #[.int .i64 t,.int .i64 n] 28))):=a3z w _
 have hq':∀x∈bCz nsf bsf m t n lv (aAz T t n),1≤x.sq:=by
  intro x hx
  unfold bCz at hx
  split at hx
  ·exact hq _ x hx
  ·simp at hx
 have c:=((h.below HB.out).file hT t n hlv).mono λe w' (k:∃fp,_∧_∧VJ _ _ _ _ _ _ _ _)=>(by
  obtain⟨fp,k1,k2,k3⟩:=k
  exact⟨fp,k1,k2,k3.of_below HB.out⟩:∃fp,e=.returned (.tuple #[eyz fp,.int .i64 (iJz lv (aAz T t n))])∧FPx fp w' (bCz nsf bsf m t n lv (aAz T t n))∧VJ w F vb nsf bsf m ls w')
 have HS:Hid (IsHd (bCz nsf bsf m t n lv (aAz T t n)) HC∧∀x∈bCz nsf bsf m t n lv (aAz T t n),1≤x.sq):=⟨hs,hq'⟩
 generalize iJz lv (aAz T t n)=er at*
 generalize bCz nsf bsf m t n lv (aAz T t n)=S at*
 clear h hT hlv hq hs hq'
 go_enter Tryz.func22,Tryz.ntmps22
 go_wp2_with (first
  |(go_at_call 53;refine c.mono ?_;rintro e w1 ⟨fp,rfl,hfp,hv⟩;have H1:=a0z (agz hfp hv);clear hfp hv c)
  |(go_at_call 54;refine(H1.out.1.value HS.out.2 HS.out.1).mono ?_;rintro e w2 ⟨v,rfl,hr,hb⟩;have H2:=a0z (agz hr hb);clear hr hb))
 first
  |(go_region_with (go_at_call 54;refine((H1.out.1.below (a6z _)).value HS.out.2 HS.out.1).mono ?_;rintro e w2 ⟨v,rfl,hr,hb⟩;have H2:Hid (w2.ownsRow w1.heap.size 5 1 v (aRz HC).length ((aRz HC).map Cd.u8v)∧Below w1.heap.size w1 w2):=⟨hr,a2z (a6z _) hb⟩;clear hr hb);all_goals go_wp2_with fail)
  |skip
 all_goals
  go_ret2
  exact⟨v,w1,rfl,H2.out.1,H1.out.2,H2.out.2⟩
structure VB (w:World) (F:Nat→Prop) (vb gd gs:Nat) (W:World):Prop where
 vw:VW F W vb vns vbs ([]++[vo1]++[vo2 gd 2 gs 2]) [vo1,vo2 gd 2 gs 2]
 lo:∀b,F b→w.heap.size≤b
 bel:Below w.heap.size w W
 tg:∀b,F b→∀cs t fr,W.heap[b]? =some (.cells cs t fr)→okV t
structure Nx (F F':Nat→Prop) (W W':World):Prop where
 sub:∀b,F' b→F b∨W.heap.size≤b
 only:Only F W W'
structure Kp (F:Nat→Prop) (W:World) (g:Nat) (cs:Array Value) (t:TypeId) (fr:Nat×Nat):Prop where
 at_:W.heap[g]? =some (.cells cs t fr)
 off:¬F g
section
variable {w W W':World} {F F':Nat→Prop} {vb gd gs g:Nat} {cs:Array Value} {t:TypeId} {fr:Nat×Nat}
theorem Kp.nx (h:Kp F W g cs t fr) (n:Nx F F' W W'):Kp F' W' g cs t fr:=
 ⟨(n.only.block _ (block_lt h.at_) h.off).trans h.at_,λe=>(n.sub g e).elim h.off λe=>by have:=block_lt h.at_;omega⟩
theorem Kp.below (h:Kp F W g cs t fr) (hb:Below W.heap.size W W'):Kp F W' g cs t fr:=⟨(hb.block _ (block_lt h.at_)).trans h.at_,h.off⟩
theorem VB.nx (h:VB w F vb gd gs W) (hj:VJ W F vb vns vbs ([]++[vo1]++[vo2 gd 2 gs 2]) [vo1,vo2 gd 2 gs 2] W'):∃F',VB w F' vb gd gs W'∧Nx F F' W W':=by
 obtain⟨F1,k1,k2,k3,k4⟩:=hj
 have hs:=h.bel.size
 refine⟨tgF F1 W',⟨k1.tight,λb hb=> ?_,h.bel.trans (k3.below hs h.lo),λb hb=>hb.2⟩,λb hb=>k2 b hb.1,k3⟩
 rcases k2 b hb.1 with e|e
 ·exact h.lo b e
 ·omega
theorem VB.below (h:VB w F vb gd gs W) (hb:Below W.heap.size W W'):VB w F vb gd gs W':=
 ⟨h.vw.below hb,h.lo,h.bel.trans (hb.mono h.bel.size),λb hF cs t fr hx=>h.tg b hF cs t fr ((hb.block _ (h.vw.low b hF)).symm.trans hx)⟩
theorem VB.typ (h:VB w F vb gd gs W) (hg:W.heap[g]? =some (.cells cs t fr)) (ht:¬okV t):Kp F W g cs t fr:=⟨hg,λe=>ht (h.tg g e _ _ _ hg)⟩
theorem gCz (hb:Below W.heap.size W W'):Nx F F W W':=⟨λ_ e=>.inl e,Below.only hb F⟩
theorem Nx.trans {F2:Nat→Prop} {W2:World} (h:Nx F F' W W') (k:Nx F' F2 W' W2):Nx F F2 W W2:=
 ⟨λb hb=>(k.sub b hb).elim (h.sub b) λe=>.inr (Nat.le_trans h.only.size e),h.only.trans k.only h.sub⟩
theorem VB.put {cs0:Array Value} (h:VB w F vb gd gs W) (hx:(W.alloc (.cells cs0 t)).heap[W.heap.size]? =some (.cells cs0 t (0,0))) (ht:¬okV t) (ht2:t≠2∧t≠5) (ho:Only (· =W.heap.size) (W.alloc (.cells cs0 t)) W'):∃F',VB w F' vb gd gs W'∧Nx F F' W W':=
 h.nx (((VJ.start h.vw).below (a3z W _).out).put hx ht ht2 (Nat.le_refl _) ho)
theorem VB.lb (h:VB w F vb gd gs W) (hL:Sh.Lb w):∀W'',Only F W W''→Sh.Lb W'':=λ_ ho=>hL.below (h.bel.trans (ho.below h.bel.size h.lo))
theorem mTz (h:VB w F vb gd gs W) (hL:Sh.Lb w):
  Calls Tryz.prog 18 #[.pointer (some ⟨vb,0,none⟩),.slice (some ⟨W.heap.size,0,none⟩) 1 1] (W.alloc (.cells #[.string ⟨#[102]⟩] 9)) λe W'=>e=.returned (.tuple #[.agg #[.int .i64 4,.int .i64 1],.int .i64 0])∧Hid (∃F',VB w F' vb gd gs W'∧Nx F F' W W'):=by
 have hb:=(a3z W (.cells #[.string ⟨#[102]⟩] 9)).out
 have h':=h.below hb
 have hr:=heap_alloc_new W (.cells #[.string ⟨#[102]⟩] 9)
 have:=h'.vw.walk (T:=vT) (s:=0) lBz (some ⟨W.heap.size,0,none⟩) 1 [[102]] (λx hx=>by rw[List.mem_singleton.1 hx];decide) (by decide) (h'.lb hL) (λW' ho j x hx=>by
  match j,hx with
  |0,hx=>
   obtain rfl:=Option.some.inj hx
   refine⟨_,0,rfl, ?_⟩
   exact cellOf ((ho.block _ (block_lt hr) λe=>by have:=h.vw.low _ e;omega).trans hr) 0
  |j+1,hx=>simp at hx)
 rw[orz]at this
 refine this.mono ?_
 rintro e W' ⟨rfl,hj⟩
 obtain⟨F',k1,k2⟩:=h'.nx hj
 exact⟨rfl,F',k1,(gCz hb).trans k2⟩
theorem mxz (h:VB w F vb gd gs W):
  Calls Tryz.prog 22 #[.pointer (some ⟨vb,0,none⟩),.agg #[.int .i64 4,.int .i64 1]] W λe W'=>∃g c,e=.returned (.tuple #[.slice (some ⟨g,0,none⟩) 2 c,.int .i64 0])∧Hid (∃F' cur fr,VB w F' vb gd gs W'∧Nx F F' W W'∧Kp F' W' g cur 5 fr∧∀(j:Nat) (x:BitVec 8),(Cd.bvs xy)[j]? =some x→(cur:Array Value)[j]? =some (Cd.u8v x)):=by
 have hf:bCz vns vbs ([]++[vo1]++[vo2 gd 2 gs 2]) 4 1 true (aAz vT 4 1)=vHC (4,1):=by
  unfold bCz
  rw[if_pos ⟨rfl,jez⟩,k0z]
 have:=h.vw.read1 (T:=vT) (s:=0) lBz 4 1 itz (λq=>by rw[k0z];exact nSz q) (HC:=vHC (4,1)) (by rw[hf];exact vhd _)
 rw[jez]at this
 refine this.mono ?_
 rintro e W' ⟨v,w1,rfl,hr,hj,hb⟩
 obtain⟨F',k1,k2⟩:=h.nx hj
 have hl:aRz (vHC (4,1))=Cd.bvs xy:=rfl
 rw[hl]at hr
 obtain⟨hl2,⟨rfl,h0⟩|⟨g,cap,cur,rfl,hb2,hg,_,_,_,hcur⟩⟩:=hr
 ·exact absurd h0 (by decide)
 ·refine⟨g,cap,rfl,F',cur,_,k1.below hb,k2.trans (gCz hb),⟨hg,λe=>by have:=k1.vw.low _ e;omega⟩,λj x hx=> ?_⟩
  have e2:(cur.toList.take (2*1))[j]? =some (Cd.u8v x):=by rw[show(2:Nat)*1=(Cd.bvs xy).length*1 from rfl,hcur,List.getElem?_map,hx];rfl
  have hj:j<2:=(List.getElem?_eq_some_iff.1 hx).1
  rw[List.getElem?_take,if_pos (by omega),Array.getElem?_toList]at e2
  exact e2
theorem mwz (h:VB w F vb gd gs W) (hL:Sh.Lb w):
  Calls Tryz.prog 20 #[.pointer (some ⟨vb,0,none⟩),.agg #[.int .i64 0,.int .i64 0]] W λe W'=>∃ge,e=.returned (.tuple #[.slice (some ⟨ge,0,none⟩) 1 1,.int .i64 0])∧Hid (∃F' cur,VB w F' vb gd gs W'∧Nx F F' W W'∧Kp F' W' ge cur 69 (0,0)∧cur[4]? =some (.int .i64 2)):=by
 have:=h.vw.list (T:=vT) (s:=0) lBz 0 0 obz (λq=>by rw[k0z];exact nSz q) (h.lb hL) nDz (by decide) (HC:=vHC) (λq=>by rw[k0z];exact vhd q) vEn ven
 refine this.mono ?_
 rintro e W' ⟨ho,hj⟩
 obtain⟨F',k1,k2⟩:=h.nx hj
 rcases ho with⟨e1,_⟩|⟨_,e1,_⟩|⟨_,_,ge,rfl,hE,_⟩
 ·cases e1
 ·rw[nzz]at e1;cases e1
 ·rw[show Sh.shownL [(4,1)] ([(4,1)].map (nmT vT)) ([(4,1)]:List PI).length=[[102]]from nXz]at hE⊢
  obtain⟨cur,c1,c2,c3⟩:=hE
  refine⟨ge,rfl,F',cur,k1,k2,k1.typ c1 (by decide), ?_⟩
  have:=c3 0 (by decide) [102] (by simp[mjz]) 4 (by decide)
  exact this
theorem mWz (h:VB w F vb gd gs W):
  Calls Tryz.prog 23 #[.pointer (some ⟨vb,0,none⟩),.agg #[.int .i64 4,.int .i64 1]] W λe W'=>e=.returned (.tuple #[.agg #[.int .i64 4,.int .i64 1,.bool false,.int .i64 2,.int .i64 1],.int .i64 0])∧Hid (∃F',VB w F' vb gd gs W'∧Nx F F' W W'):=by
 have hf:bCz vns vbs ([]++[vo1]++[vo2 gd 2 gs 2]) 4 1 true (aAz vT 4 1)=vHC (4,1):=by
  unfold bCz
  rw[if_pos ⟨rfl,jez⟩,k0z]
 have:=h.vw.stat (T:=vT) (s:=0) lBz 4 1 itz (λq=>by rw[k0z];exact nSz q) (HC:=vHC (4,1)) (by rw[hf];exact vhd _)
 rw[jez,otz]at this
 refine this.mono ?_
 rintro e W' ⟨rfl,hj⟩
 exact⟨rfl,h.nx hj⟩
theorem mez (h:VB w F vb gd gs W):
  Calls Tryz.prog 24 #[.pointer (some ⟨vb,0,none⟩),.agg #[.int .i64 4,.int .i64 1]] W λe W'=>e=.returned (.bool true)∧Hid (∃F',VB w F' vb gd gs W'∧Nx F F' W W'):=by
 refine(h.vw.live (T:=vT) (s:=0) nFz 4 1 itz).mono ?_
 rintro e W' ⟨rfl,hj⟩
 exact⟨rfl,h.nx hj⟩
end
theorem jZz {w w2:World} {vb ib:Nat} {F:Nat→Prop} (h:VB1 w F vb ib w2):
  Calls Tryz.prog 9 #[.pointer (some ⟨vb,0,none⟩),b2z (vo2 w2.heap.size 2 (w2.heap.size+1) 2)] ((w2.alloc (.cells #[.int .u8 120,.int .u8 121] 5 (2,3))).alloc (.cells #[.int .i64 0,.int .i64 1] 2)) λe w3=>e=.returned (.int .i64 0)∧Hid (∃F,VB w F vb w2.heap.size (w2.heap.size+1) w3):=by
 obtain⟨A,hA⟩:∃A,A=(w2.alloc (.cells #[.int .u8 120,.int .u8 121] 5 (2,3))).alloc (.cells #[.int .i64 0,.int .i64 1] 2):=⟨_,rfl⟩
 have hb:Below w2.heap.size w2 A:=by rw[hA];exact a2z (a3z w2 _).out (a3z _ _).out
 have hd:A.heap[w2.heap.size]? =some (.cells #[.int .u8 120,.int .u8 121] 5 (2,3)):=by rw[hA,Below.heap_alloc _ _ _ (by simp)];exact heap_alloc_new w2 _
 have hs:A.heap[w2.heap.size+1]? =some (.cells #[.int .i64 0,.int .i64 1] 2 (0,0)):=by
  have:=heap_alloc_new (w2.alloc (.cells #[.int .u8 120,.int .u8 121] 5 (2,3))) (.cells #[.int .i64 0,.int .i64 1] 2)
  rw[← hA]at this
  rwa [show(w2.alloc (.cells #[.int .u8 120,.int .u8 121] 5 (2,3))).heap.size=w2.heap.size+1 by simp]at this
 rw[← hA]
 have hlow:=h.vw.low
 have hst:Stays F A (vo2 w2.heap.size 2 (w2.heap.size+1) 2) (vns (vo2 w2.heap.size 2 (w2.heap.size+1) 2)) (vbs (vo2 w2.heap.size 2 (w2.heap.size+1) 2)):=λW hW=>by
  have kd:=(hW.block _ (block_lt hd) (λe=>by have:=hlow _ e;omega)).trans hd
  have ks:=(hW.block _ (block_lt hs) (λe=>by have:=hlow _ e;omega)).trans hs
  refine⟨λ_=>⟨w2.heap.size+1,0,rfl,λj x hj=> ?_⟩,rfl,Nat.le_refl _,(show 2≤1000000 by decide),λ_=>⟨w2.heap.size,0,rfl,λj x hj=> ?_⟩,rfl,Nat.le_refl _,(show 2≤1000000 by decide),(show(⟨#[]⟩:ByteArray).size≤1000000 by decide)⟩
  ·rw[Nat.zero_add,cellOf ks j]
   match j,hj with
   |0,hj|1,hj=>simpa[vns,vo2,Cd.iv]using hj
   |j+2,hj=>simp[vns,vo2]at hj
  ·rw[Nat.zero_add,cellOf kd j]
   match j,hj with
   |0,hj=>
    have:=Option.some.inj hj
    subst this
    rfl
   |1,hj=>
    have:=Option.some.inj hj
    subst this
    rfl
   |j+2,hj=>simp[vbs,vo2,Cd.bvs,xy]at hj
 have hnew:∀x∈[]++[vo1],(x.t,x.n)≠((vo2 w2.heap.size 2 (w2.heap.size+1) 2).t,(vo2 w2.heap.size 2 (w2.heap.size+1) 2).n):=λx hx=>by
  rw[List.nil_append]at hx
  rw[List.mem_singleton.1 hx]
  show((4:Int),(1:Int))≠(5,1)
  decide
 refine((h.vw.below hb).apply hst nxz hnew (by decide)).mono ?_
 rintro e w3 ⟨rfl,ls,F',k1,k2,k3,k4⟩
 have e1:=ozz k1.srt
 subst e1
 have hs2:=hb.size
 have hs1:=h.bel.size
 refine⟨rfl,tgF F' w3,k1.tight,λb hb'=> ?_,(h.bel.trans (hb.mono hs1)).trans (k3.below (by omega) h.lo),λb hb=>hb.2⟩
 rcases k2 b hb'.1 with e|e
 ·exact h.lo b e
 ·omega
end Go.Proofs.YthhakekbffembaaGreatDoor.Ck.Y.W

namespace Go.Proofs.YthhakekbffembaaGreatDoor.Ck.Y.W
open Go.RowKit Go.Maps Go.Lib Go.Sort
open L (a2z a6z anz a5z IsHd aRz)
open Sh (bas Ids Nms strs bIz InI Cs ShI)
theorem osz {w w4 w5:World} {F:Nat→Prop} {vb gd gs:Nat} (h:VB w F vb gd gs w4) {cs0:Array Value} (k:w5.heap[w4.heap.size]? =some (.cells #[.int .i64 4,.int .i64 1] 28 (0,0))∧Only (· =w4.heap.size) (w4.alloc (.cells cs0 28)) w5∧w5.heap.size=(w4.alloc (.cells cs0 28)).heap.size):∃F5,VB w F5 vb gd gs w5∧Nx F F5 w4 w5∧Kp F5 w5 w4.heap.size #[.int .i64 4,.int .i64 1] 28 (0,0):=by
 obtain⟨F5,k1,k2⟩:=h.put (heap_alloc_new w4 _) (by decide) (by decide) k.2.1
 exact⟨F5,k1,k2,k1.typ k.1 (by decide)⟩
theorem oaz {W:World} {F:Nat→Prop} {g:Nat} {cur:Array Value} {fr:Nat×Nat} (h:Kp F W g cur 5 fr) (hc:∀(j:Nat) (x:BitVec 8),(Cd.bvs xy)[j]? =some x→cur[j]? =some (Cd.u8v x)) (c:Nat):(convert 29 9 (.slice (some ⟨g,0,none⟩) 2 c)).run Tryz.prog W=.ok (.string ⟨#[120,121]⟩) W:=by
 have hby:Cd.Bytes W (some ⟨g,0,none⟩) (Cd.bvs xy):=λ_=>⟨g,0,rfl,λj x hj=>by rw[Nat.zero_add,cellOf h.at_ j];exact hc j x hj⟩
 have:=Cd.run_str W (some ⟨g,0,none⟩) (Cd.bvs xy) c hby
 rw[show Cd.strOf (Cd.bvs xy)=⟨#[120,121]⟩from onz]at this
 exact this
theorem ilz (w:World) (hL:Sh.Lb w):Calls Tryz.prog 6 #[] w λe w'=>e=.returned (.bool true)∧Below w.heap.size w w':=by
 have c1:=hIz w
 obtain⟨vb,hvb⟩:∃vb,w.heap.size=vb:=⟨_,rfl⟩
 have HN:=a0z (agz hvb hL)
 rw[hvb]at c1
 clear hvb hL
 go_enter Tryz.func6,Tryz.ntmps6
 go_wp2_with (first
  |(go_at_call 7;refine c1.mono ?_;rintro e w1 ⟨rfl,h1⟩;have H1:=h1;clear h1 c1;have cA1:=kcz HN.out.1 H1.out)
  |(go_at_call 9;refine cA1.mono ?_;rintro e w2 ⟨rfl,H2⟩;clear cA1;obtain⟨F2,H2⟩:∃F,Hid (VB1 w F vb w1.heap.size w2):=H2.out;have y0:w2.cell? ⟨w1.heap.size,0,none⟩=some (.int .i64 4):=cellOf H2.out.box 0;have y1:w2.cell? ⟨w1.heap.size,1,none⟩=some (.int .i64 1):=cellOf H2.out.box 1;have hcv:(convert 29 29 (.slice (some ⟨w2.heap.size,0,none⟩) 2 2)).run Tryz.prog (w2.alloc (.cells #[.int .u8 120,.int .u8 121] 5))=.ok (.slice (some ⟨w2.heap.size,0,none⟩) 2 2) (w2.alloc (.cells #[.int .u8 120,.int .u8 121] 5 (2,3))):=Lib.run_convert_bytes_const w2 29 5 #[.int .u8 120,.int .u8 121] 2 2 Tryz.underlying29 Tryz.underlying5;have cA2:=jZz H2.out;simp only[b2z,vo2]at cA2)
  |(go_at_call 9;refine cA2.mono ?_;rintro e w3 ⟨rfl,H3⟩;clear cA2 hcv y0 y1;obtain⟨F3,H3⟩:∃F,Hid (VB w F vb w2.heap.size (w2.heap.size+1) w3):=H3.out)
  |(go_at_call 18;refine(mTz H3.out HN.out.2).mono ?_;rintro e w4 ⟨rfl,H4⟩;obtain⟨F4,H4⟩:∃F4,Hid (VB w F4 vb w2.heap.size (w2.heap.size+1) w4∧Nx F3 F4 w3 w4):=H4.out)
  |(refine asz rfl 28 _ _ rfl w4.heap.size (#[.int .i64 4,.int .i64 1]) rfl rfl 28 _ (heap_alloc_new w4 _) aWz rfl (aNz _ _) ?_;intro w5 H5;have V5:Hid (∃F5,VB w F5 vb w2.heap.size (w2.heap.size+1) w5∧Nx F4 F5 w4 w5∧Kp F5 w5 w4.heap.size #[.int .i64 4,.int .i64 1] 28 (0,0)):=osz H4.out.1 H5.out;obtain⟨F5,V5⟩:∃F5,Hid (VB w F5 vb w2.heap.size (w2.heap.size+1) w5∧Nx F4 F5 w4 w5∧Kp F5 w5 w4.heap.size #[.int .i64 4,.int .i64 1] 28 (0,0)):=V5.out;have y50:w5.cell? ⟨w4.heap.size,0,none⟩=some (.int .i64 4):=cellOf V5.out.2.2.at_ 0;have y51:w5.cell? ⟨w4.heap.size,1,none⟩=some (.int .i64 1):=cellOf V5.out.2.2.at_ 1)
  |(go_at_call 22;refine(mxz V5.out.1).mono ?_;clear y50 y51;rintro e w6 ⟨g6,c6,rfl,H6⟩;obtain⟨F6,cur6,fr6,H6⟩:∃F6 cur fr,Hid (VB w F6 vb w2.heap.size (w2.heap.size+1) w6∧Nx F5 F6 w5 w6∧Kp F6 w6 g6 cur 5 fr∧∀(j:Nat) (x:BitVec 8),(Cd.bvs xy)[j]? =some x→(cur:Array Value)[j]? =some (Cd.u8v x)):=H6.out)
  |(go_at_call 20;(refine(mwz H6.out.1 HN.out.2).mono ?_;rintro e w7 ⟨g7,rfl,H7⟩;obtain⟨F7,cur7,H7⟩:∃F7 cur,Hid (VB w F7 vb w2.heap.size (w2.heap.size+1) w7∧Nx F6 F7 w6 w7∧Kp F7 w7 g7 cur 69 (0,0)∧(cur:Array Value)[4]? =some (Value.int IntKind.i64 2)):=H7.out;have K7:Hid (Kp F7 w7 w4.heap.size #[.int .i64 4,.int .i64 1] 28 (0,0)):=(V5.out.2.2.nx H6.out.2.1).nx H7.out.2.1;have y70:w7.cell? ⟨w4.heap.size,0,none⟩=some (.int .i64 4):=cellOf K7.out.at_ 0;have y71:w7.cell? ⟨w4.heap.size,1,none⟩=some (.int .i64 1):=cellOf K7.out.at_ 1))
  |(go_at_call 23;refine(mWz H7.out.1).mono ?_;clear y70 y71;rintro e w8 ⟨rfl,H8⟩;obtain⟨F8,H8⟩:∃F8,Hid (VB w F8 vb w2.heap.size (w2.heap.size+1) w8∧Nx F7 F8 w7 w8):=H8.out;have hD:=(a3z w8 (.cells #[.int .i64 4,.int .i64 1,.bool false,.int .i64 2,.int .i64 1] 65)).out;have KB:=(((H6.out.2.2.1.nx H7.out.2.1).nx H8.out.2).below hD);have hcv:=oaz KB H6.out.2.2.2 c6;have KE:=((H7.out.2.2.1.nx H8.out.2).below hD);have ye:(w8.alloc (.cells #[.int .i64 4,.int .i64 1,.bool false,.int .i64 2,.int .i64 1] 65)).cell? ⟨g7,4,none⟩=some (.int .i64 2):=(cellOf KE.at_ 4).trans H7.out.2.2.2;have KA:=((K7.out.nx H8.out.2).below hD);have y80:=(show World.cell? _ ⟨w4.heap.size,0,none⟩=some (.int .i64 4)from cellOf KA.at_ 0);have y81:=(show World.cell? _ ⟨w4.heap.size,1,none⟩=some (.int .i64 1)from cellOf KA.at_ 1);have V8:Hid (VB w F8 vb w2.heap.size (w2.heap.size+1) (w8.alloc (.cells #[.int .i64 4,.int .i64 1,.bool false,.int .i64 2,.int .i64 1] 65))):=H8.out.1.below hD;clear hD KB KE KA)
  |(go_at_call 11;refine V8.out.vw.vlen.mono ?_;rintro e w9 ⟨rfl,rfl⟩)
  |(go_at_call 24;refine(mez V8.out).mono ?_;clear y80 y81 ye hcv;rintro e w10 ⟨rfl,H10⟩;have HB10:Hid (Below w.heap.size w w10):=H10.out.elim λF h=>h.1.bel))
 go_ret
 exact⟨by first|rfl|(simp;done),HB10.out⟩
end Go.Proofs.YthhakekbffembaaGreatDoor.Ck.Y.W
