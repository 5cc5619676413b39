import Derived.Test.YthhakekbffembaaGreatDoorQQb
import Derived.Lib.Overlaps
import Derived.Lib.AppendZerosOnto
import Derived.Lib.JoinLaws
import Derived.Laws.IdiomCopy
import Derived.Laws.NewBlocks
import Derived.Deep.RegionLaw
set_option maxRecDepth 8000
set_option maxHeartbeats 4000000

namespace Go.Proofs.YthhakekbffembaaGreatDoor.Ck.Y
open Go.RowKit Go.Maps Go.Lib
variable {e:TypeId} {w w':World} {base:Nat} {v:Value}
def pv (b:Nat):Value:=.pointer (some ⟨b,0,none⟩)
def pvs (L:List Nat):List Value:=L.map pv
theorem aPz (L:List Nat):(pvs L).length=L.length:=by simp[pvs]
theorem brz (L M:List Nat):pvs (L++M)=pvs L++pvs M:=by simp[pvs]
theorem dJz (x:Nat) (M:List Nat):pvs (x::M)=[pv x]++pvs M:=by simp[pvs]
theorem dVz (L:List Nat):∀v∈pvs L,v.oneCell'=true:=by
 intro v hv
 obtain⟨b,_,rfl⟩:=List.mem_map.1 hv
 rfl
theorem cJz (L:List Nat) (i:Nat):(pvs L).take i=pvs (L.take i):=by simp[pvs,List.map_take]
theorem cKz (L:List Nat) (i:Nat):(pvs L).drop i=pvs (L.drop i):=by simp[pvs,List.map_drop]
def RowP (e:TypeId) (w:World) (base:Nat) (v:Value) (L:List Nat):Prop:=w.ownsRow base e 1 v L.length (pvs L)
theorem RowP.nil (e:TypeId) (w:World) (base:Nat):RowP e w base (.slice none 0 0) []:=World.ownsRow_nil _ _ _ _
theorem RowP.ext {n:Nat} {xs:List Value} {L:List Nat} (h:w.ownsRow base e 1 v n xs) (hn:n=L.length) (hx:xs=pvs L):RowP e w base v L:=by
 subst hn;subst hx;exact h
theorem RowP.two {L:List Nat} (h:RowP e w base v L):(v=.slice none 0 0∧L=[])∨∃g cap cur,v=.slice (some ⟨g,0,none⟩) L.length cap∧base≤g∧w.heap[g]? =some (.cells cur e (0,0))∧L.length≤cap∧cap≤maxLen∧cur.size=cap∧cur.toList.take L.length=pvs L:=by
 rcases h.2 with⟨rfl,h0⟩|⟨g,cap,cur,rfl,hb,hg,hn,hm,hs,ht⟩
 ·exact .inl ⟨rfl,List.eq_nil_of_length_eq_zero h0⟩
 ·rw[Nat.mul_one]at hs ht
  exact .inr ⟨g,cap,cur,rfl,hb,hg,hn,hm,hs,ht⟩
theorem RowP.form {L:List Nat} (h:RowP e w base v L):∃p c,v=.slice p L.length c∧L.length≤c∧c≤maxLen∧(0<L.length→∃g,p=some ⟨g,0,none⟩∧∀(i x:Nat),L[i]? =some x→w.cell? ⟨g,i,none⟩=some (pv x)):=by
 rcases h.two with⟨rfl,rfl⟩|⟨g,cap,cur,rfl,hb,hg,hn,hm,hs,ht⟩
 ·exact⟨none,0,rfl,Nat.le_refl _,Nat.zero_le _,λh=>by simp at h⟩
 ·refine⟨_,cap,rfl,hn,hm,λ_=>⟨g,rfl,λi x hx=> ?_⟩⟩
  have hi:=(List.getElem?_eq_some_iff.1 hx).1
  rw[cellOf hg i,← Array.getElem?_toList]
  have:(cur.toList.take L.length)[i]? =some (pv x):=by rw[ht];unfold pvs;rw[List.getElem?_map,hx];rfl
  rwa [List.getElem?_take_of_lt hi]at this
theorem RowP.kept {L:List Nat} {S:Nat→Prop} (h:RowP e w base v L) (ho:Only S w w') (hn:∀b,v.ownBlock=some b→¬S b):RowP e w' base v L:=by
 refine⟨h.1, ?_⟩
 rcases h.2 with h0|⟨g,cap,cur,rfl,hb,hg,r⟩
 ·exact .inl h0
 ·exact .inr ⟨g,cap,cur,rfl,hb,(ho.block g (block_lt hg) (hn g rfl)).trans hg,r⟩
theorem RowP.tag {L:List Nat} (h:RowP e w base v L) {g:Nat} (hg:v.ownBlock=some g):base≤g∧g<w.heap.size∧∃cur,w.heap[g]? =some (.cells cur e (0,0)):=by
 rcases h.2 with⟨rfl,h0⟩|⟨g',cap,cur,rfl,hb,hg',r⟩
 ·cases hg
 ·cases hg;exact⟨hb,block_lt hg',cur,hg'⟩
theorem RowP.below {L:List Nat} (h:RowP e w base v L) (hb:Below w.heap.size w w'):RowP e w' base v L:=own_below h hb
theorem b5z {row:Option Nat} (h:w.grownBy w' row):Only (λj=>row=some j) w w':=
 ⟨h.os,h.tape,h.output,h.size,λi hi hn=>h.block i hi (λe=>hn e.symm)⟩
theorem eJz {α:Type} (c X T R:List α) (i t:Nat) (hc:i+1≤c.length) (hX:X.length=1) (hT:T.length=t):((c.take (i+1)++T++R).take i++X++(c.take (i+1)++T++R).drop (i+1)).take (i+1+t)=c.take i++X++T:=by
 have h1:(c.take (i+1)++T++R).take i=c.take i:=by
  rw[List.append_assoc,List.take_append_of_le_length (by rw[List.length_take];omega),List.take_take,Nat.min_eq_left (by omega)]
 have h2:(c.take (i+1)++T++R).drop (i+1)=T++R:=by
  rw[List.append_assoc,List.drop_append_of_le_length (by rw[List.length_take];omega),List.drop_of_length_le (by rw[List.length_take];omega),List.nil_append]
 rw[h1,h2,← List.append_assoc,List.take_append_of_le_length (by simp;omega),List.take_of_length_le (by simp;omega)]
theorem fYz {α:Type} (R X T:List α) (i t:Nat) (hR:i+1+t≤R.length) (hX:X.length=1) (hT:T.length=t):
  ((R.take i++X++R.drop (i+1)).take (i+1)++T++(R.take i++X++R.drop (i+1)).drop (i+1+t)).take (i+1+t)=R.take i++X++T:=by
 have h1:(R.take i++X++R.drop (i+1)).take (i+1)=R.take i++X:=by
  rw[List.take_append_of_le_length (by simp;omega),List.take_of_length_le (by simp;omega)]
 rw[h1,List.take_append_of_le_length (by simp;omega),List.take_of_length_le (by simp;omega)]
theorem dQz {ops:Array Oper} {o:Oper} {a:Act} {K:Act→World→Prop} {Q:Exit→Act→World→Prop} {E:Prop} (hg:o.guard=none) (s x:Operand) (t u:TypeId) (hop:o.op=.call {callee:=.builtin .append,args:= #[s,x],argTypes:= #[t,u]}) (vs vx:Value) (hs:a.eval s=vs) (hx:a.eval x=vx) {v':Value}
  (hr:(Builtin.append_ #[t,u] o.type #[vs,vx]).run Tryz.prog w=.ok v' w') (hK:K (a.put o.dst v') w'):
  if Region.wanted o (yielded ops a.tmps)=true then Oper.wp Tryz.prog o a w K Q else E:=by
 rw[if_pos (by unfold Region.wanted;rw[hg])]
 unfold Oper.wp execOp
 simp only[hop,resolve,invoke,builtin,Sem.run_bind,Sem.run_pure,Result.andThen_ok,List.map_toArray,List.map_cons,List.map_nil,hs,hx,hr]
 exact hK
end Go.Proofs.YthhakekbffembaaGreatDoor.Ck.Y

namespace Go.Proofs.YthhakekbffembaaGreatDoor.Ck.Y
open Go.RowKit Go.Maps Go.Lib
theorem i8z:∃i,Tryz.prog.info? 117=some i∧i.zero=some (.pointer none)∧i.size=1∧i.bytes=8:=by
 have e:(Tryz.prog.info? 117).map (λi=>(i.zero,i.size,i.bytes))=some (some (.pointer none),1,8):=by kernel_rfl
 obtain⟨i,hi,he⟩:=Option.map_eq_some_iff.1 e
 injection he with h1 h2
 injection h2 with h2 h3
 exact⟨i,hi,h1,h2,h3⟩
def eNz (base:Nat) (v:Value) (M:List Nat) (w:World) (e:Ending) (w':World):Prop:=∃v',e=.returned v'∧RowP 117 w' base v' M∧w.grownBy w' v.ownBlock∧(v'.ownBlock=v.ownBlock∨v'.ownBlock=some w.heap.size)
theorem hvz (base vb:Nat) (v:Value) (L:List Nat) (x:Nat) (w:World) (h:RowP 117 w base v L) (hl:L.length≤1000) (hb:base≤w.heap.size) (hvb:w.heap[vb]? =some (.cells [pv x].toArray 117 (0,0))):
  Calls Tryz.prog 71 #[v,.int .i64 (L.length:Nat),.slice (some ⟨vb,0,none⟩) 1 1] w (eNz base v (L++[x]) w):=by
 obtain⟨i0,hi0,hz0,hz1,hz2⟩:=i8z
 obtain⟨p,c,rfl,hlc,hcm,_⟩:=h.form
 obtain⟨v',w',hr,h2,h3,_,h5⟩:=run_append_own_at (P:=Tryz.prog) w base 72 72 117 i0 _ 1 8 Tryz.underlying72 hi0 hz0 hz1 hz2 rfl (by omega) _ L.length (pvs L) h ⟨vb,0,none⟩ 1 1 [pv x] rfl
  (λj u hj=>by rw[Addr.add_lit,cellOf hvb];simpa using hj) (by intro u hu;simp[pv]at hu;rcases hu with rfl;rfl) (by unfold maxLen;omega) (by omega) hb
 have H:Hid (eNz base (.slice p L.length c) (L++[x]) w (.returned v') w'):=⟨v',rfl,RowP.ext h2 (by simp) (by rw[brz];simp[pvs]),h3,h5⟩
 have hcm':c≤9223372036854775807:=by unfold maxLen at hcm;omega
 clear h hvb h2 h3 h5 hi0 hz0 hcm
 generalize L.length=n at*
 go_enter Tryz.func71,Tryz.ntmps71
 rcases p with _|⟨ab,ao,asp⟩
 ·go_wp2_with (at_builtin;refine Lib.wpList_append_run _ rfl _ _ _ _ rfl _ _ rfl rfl _ _ hr ?_)
  all_goals(go_ret;exact H.out)
 ·go_wp2_with (at_builtin;refine Lib.wpList_append_run _ rfl _ _ _ _ rfl _ _ rfl rfl _ _ hr ?_)
  all_goals(go_ret;exact H.out)
theorem csz (w:World) (dT sT ty:TypeId) (g o dLen dCap:Nat) (a:Addr) (sLen sCap:Nat) (cur:Array Value) (t:TypeId) (cs:List Value) (k:Nat) (hu:Tryz.prog.underlying dT=some (.slice 117)) (hg:w.heap[g]? =some (.cells cur t (0,0))) (hk:Nat.min sLen dLen=k) (hn:cs.length=k) (hsrc:∀j v,cs[j]? =some v→w.cell? (a.add j)=some v) (hfit:o+cs.length≤cur.size) (h1:∀v∈cs,v.oneCell'=true):
  (Builtin.copy_ #[dT,sT] ty #[.slice (some ⟨g,o,none⟩) dLen dCap,.slice (some a) sLen sCap]).run Tryz.prog w=
   .ok (goInt k) (w.setRow g (cur.toList.take o++cs++cur.toList.drop (o+cs.length)).toArray):=by
 have hl:=run_loadCells_list (P:=Tryz.prog) w a cs hsrc
 have hst:=run_storeCells_at Tryz.prog g o t cs 0 cur w hg (by simpa using hfit) h1
 obtain⟨i0,hi0,hz0,hz1,hz2⟩:=i8z
 rw[hn]at hl
 simp[Builtin.copy_,run_underlying hu,Builtin.lenOf,Builtin.firstCells,sizeOf,typeInfo,hi0,hz1,hk,hl,hst]
theorem gfz (w:World) (vb g la ca lb cb o:Nat) (cur ds:Array Value) (hne:vb≠g) (hvb:w.heap[vb]? =some (.cells ds 117 (0,0))) (hg:w.heap[g]? =some (.cells cur 117 (0,0))) (h0:cur.size≠0):
  (callFunc 104 #[.slice (some ⟨vb,0,none⟩) la ca,.slice (some ⟨g,o,none⟩) lb cb]).run Tryz.prog w=.ok (.value (.bool false)) w:=by
 rw[run_callFunc_extern Tryz.func104 (by kernel_rfl) (by kernel_rfl) (by kernel_rfl) (e:=Extern.SlicesOverlaps.overlaps #[72,72] #[4]) (by kernel_rfl),
  Lib.run_overlaps_apart w 72 4 117 Tryz.underlying72 1 Tryz.sizeOf117 ⟨vb,0,none⟩ ⟨g,o,none⟩ la ca lb cb hne 117 117 ds.size cur.size (by unfold World.shape?;rw[hvb]) (by unfold World.shape?;rw[hg]) h0 (by simp[World.frozen?,hvb]) (by simp[World.frozen?,hvb])]
 rfl
theorem fuz (base i vb g cap:Nat) (cur:Array Value) (L:List Nat) (x:Nat) (w:World) (hbg:base≤g) (hg:w.heap[g]? =some (.cells cur 117 (0,0))) (hm:cap≤maxLen) (hs:cur.size=cap) (ht:cur.toList.take (L.length)=pvs L) (hi:i<L.length) (hl:L.length≤1000) (hroom:L.length+1≤cap) (hvb:w.heap[vb]? =some (.cells [pv x].toArray 117 (0,0))) (hne:vb≠g):
  Calls Tryz.prog 71 #[.slice (some ⟨g,0,none⟩) L.length cap,.int .i64 (i:Nat),.slice (some ⟨vb,0,none⟩) 1 1] w (eNz base (.slice (some ⟨g,0,none⟩) L.length cap) (L.take i++x::L.drop i) w):=by
 have hov:=λlb cb=>gfz w vb g 1 1 lb cb ((i+1)) cur _ hne hvb hg (by omega)
 obtain⟨n,hn⟩:∃n,n=L.length:=⟨_,rfl⟩
 have hcur:cur.toList.length=cap:=by rw[Array.length_toList,hs]
 have hdr:(pvs (L.drop i)).length=(n-i):=by rw[aPz,List.length_drop,hn]
 have hcp1:∀dc sc,(Builtin.copy_ #[72,72] 3 #[.slice (some ⟨g,(i+1),none⟩) (n-i) dc,.slice (some ⟨g,i,none⟩) (n+1-i) sc]).run Tryz.prog w.drew=_:=λdc sc=>
  csz w.drew 72 72 3 g ((i+1)) (n-i) dc ⟨g,i,none⟩ (n+1-i) sc cur 117 (pvs (L.drop i)) (n-i) Tryz.underlying72 hg (by simp only[Nat.min_def];split<;>omega) hdr
   (λj v hj=>by
    rw[Addr.add_lit]
    have hj':=(List.getElem?_eq_some_iff.1 hj).1
    rw[hdr]at hj'
    refine(cellOf hg (i+j)).trans ?_
    rw[← Array.getElem?_toList]
    have:(cur.toList.take (L.length))[i+j]? =some v:=by
     rw[ht,← List.getElem?_drop,cKz];exact hj
    rw[List.getElem?_take]at this
    split at this
    ·exact this
    ·cases this) (by rw[hdr,hs];omega) (dVz _)
 obtain⟨A1,hA1⟩:∃A1,A1=(cur.toList.take ((i+1))++pvs (L.drop i)++cur.toList.drop ((i+1)+(pvs (L.drop i)).length)).toArray:=⟨_,rfl⟩
 rw[← hA1]at hcp1
 have hA1s:A1.size=cap:=by
  rw[hA1,← Array.length_toList];simp[hdr,hs];omega
 obtain⟨W1,hW1⟩:∃W1,W1=w.drew.setRow g A1:=⟨_,rfl⟩
 rw[← hW1]at hcp1
 have hg1:W1.heap[g]? =some (.cells A1 117 (0,0)):=by rw[hW1];exact setRow_heap _ _ cur _ 117 (0,0) hg
 have hv1:W1.heap[vb]? =some (.cells [pv x].toArray 117 (0,0)):=by rw[hW1,setRow_other _ _ _ _ hne];exact hvb
 have hcp2:∀dc,(Builtin.copy_ #[72,72] 3 #[.slice (some ⟨g,i,none⟩) (n+1-i) dc,.slice (some ⟨vb,0,none⟩) 1 1]).run Tryz.prog W1=_:=λdc=>
  csz W1 72 72 3 g (i) (n+1-i) dc ⟨vb,0,none⟩ 1 1 A1 117 [pv x] 1 Tryz.underlying72 hg1 (by simp only[Nat.min_def];split<;>omega) rfl
   (λj v hj=>by rw[Addr.add_lit];refine(cellOf hv1 (0+j)).trans ?_;rw[Nat.zero_add];simpa using hj) (by rw[hA1s];simp[pv];omega) (by intro u hu;simp[pv]at hu;rcases hu with rfl;rfl)
 obtain⟨A2,hA2⟩:∃A2,A2=(A1.toList.take (i)++[pv x]++A1.toList.drop (i+[pv x].length)).toArray:=⟨_,rfl⟩
 rw[← hA2]at hcp2
 have H:Hid (eNz base (.slice (some ⟨g,0,none⟩) n cap) (L.take i++x::L.drop i) w (.returned (.slice (some ⟨g,0,none⟩) (n+1) cap)) (W1.setRow g A2)):=by
  refine⟨_,rfl, ?_,⟨?_, ?_, ?_, ?_, ?_⟩,.inl rfl⟩
  ·have hlen:(L.take i++x::L.drop i).length=n+1:=by rw[hn];simp;omega
   refine⟨by rw[Nat.mul_one];exact aPz _,.inr ⟨g,cap,A2,by rw[hlen],hbg,setRow_heap _ _ A1 _ 117 (0,0) hg1,by omega,hm, ?_, ?_⟩⟩
   ·rw[hA2]
    have:A1.toList.length=cap:=by rw[Array.length_toList,hA1s]
    simp[pv];omega
   ·rw[Nat.mul_one,hlen,hA2,hA1,List.toList_toArray,List.toList_toArray]
    have e:=eJz cur.toList [pv x] (pvs (L.drop i)) (cur.toList.drop ((i+1)+(pvs (L.drop i)).length)) (i) ((n-i)) (by omega) rfl hdr
    rw[show i+1=(i+1) by omega,show(i+1)+(n-i)=(n+1) by omega]at e
    rw[show i+[pv x].length=(i+1) by rfl,e,brz,dJz,← cJz,← ht,List.take_take,Nat.min_eq_left (by omega),List.append_assoc]
  ·rw[hW1];rfl
  ·rw[hW1];rfl
  ·rw[hW1];rfl
  ·rw[hW1];simp
  ·intro k hk hkg
   have:k≠g:=λe=>hkg (by rw[e];rfl)
   rw[setRow_other _ _ _ _ this,hW1,setRow_other _ _ _ _ this];rfl
 rw[← hn]
 rw[← hn]at hi hl hroom
 have hcm':cap≤9223372036854775807:=by unfold maxLen at hm;omega
 clear hg hs ht hvb hcur hdr hA1 hA1s hg1 hv1 hA2 hW1 hm hn
 go_enter Tryz.func71,Tryz.ntmps71
 go_wp2_with (simp only[hov])
 go_region
 go_wp2
 go_ret
 exact H.out
theorem gvz (base i vb g cap:Nat) (cur:Array Value) (L:List Nat) (x:Nat) (w:World) (hbw:base≤w.heap.size) (hg:w.heap[g]? =some (.cells cur 117 (0,0))) (hm:cap≤maxLen) (hs:cur.size=cap) (ht:cur.toList.take (L.length)=pvs L) (hi:i<L.length) (hl:L.length≤1000) (hnc:L.length≤cap) (hroom:cap<L.length+1) (hvb:w.heap[vb]? =some (.cells [pv x].toArray 117 (0,0))):
  Calls Tryz.prog 71 #[.slice (some ⟨g,0,none⟩) L.length cap,.int .i64 (i:Nat),.slice (some ⟨vb,0,none⟩) 1 1] w (eNz base (.slice (some ⟨g,0,none⟩) L.length cap) (L.take i++x::L.drop i) w):=by
 obtain⟨i0,hi0,hz0,hz1,hz2⟩:=i8z
 obtain⟨n,hn⟩:∃n,n=L.length:=⟨_,rfl⟩
 have hcur:cur.toList.length=cap:=by rw[Array.length_toList,hs]
 have hdr:(pvs (L.drop i)).length=(n-i):=by rw[aPz,List.length_drop,hn]
 have hta:(pvs (L.take i)).length=i:=by rw[aPz,List.length_take];omega
 have hcell:∀(W:World) (k j:Nat) (v:Value),W.heap[g]? =some (.cells cur 117 (0,0))→(pvs (L.drop k))[j]? =some v→W.cell? ⟨g,k+j,none⟩=some v:=λW k j v hW hj=>by
  refine(cellOf hW (k+j)).trans ?_
  rw[← Array.getElem?_toList]
  have:(cur.toList.take (L.length))[k+j]? =some v:=by
   rw[ht,← List.getElem?_drop,cKz];exact hj
  rw[List.getElem?_take]at this
  split at this
  ·exact this
  ·cases this
 have hold:(Builtin.firstCells i0.size i (.slice (some ⟨g,0,none⟩) i cap)).run Tryz.prog w.drew=.ok (pvs (L.take i)).toArray w.drew:=by
  rw[hz1]
  refine run_firstCells_some w.drew 1 i ⟨g,0,none⟩ i cap (pvs (L.take i)) (by rw[Nat.mul_one];exact hta) (λj v hj=> ?_)
  rw[Addr.add_lit]
  have:=hcell w.drew 0 j v hg (by
   rw[← cJz,List.getElem?_take]at hj
   split at hj
   ·exact hj
   ·cases hj)
  exact this
 have hzr:=Lib.run_append_grow_zeros (P:=Tryz.prog) w 72 3 72 117 i0 _ .i64 .i64 Tryz.underlying72 (by kernel_rfl) hi0 hz0 (some ⟨g,0,none⟩) i cap (pvs (L.take i)) hold (n+1-i) (by omega) (by omega) (by omega) (by omega) (by rw[hz2];omega)
  (by rw[hz2,show i+(n+1-i)=n+1 by omega];exact growslice_fits (by omega) (by omega))
 rw[show i+(n+1-i)=n+1 by omega]at hzr
 have hkk:(n:Int)+1-(i:Int)=((n+1-i:Nat):Int):=by omega
 rw[← hkk]at hzr
 obtain⟨G,hG⟩:∃G,G=grownCap w (n+1) cap 117:=⟨_,rfl⟩
 have hGn:n+1≤G:=by rw[hG];exact grownCap_ge w _ _ _
 have hGm:G≤maxLen:=by rw[hG];exact grownCap_le_maxLen w _ _ _ (by unfold maxLen;omega)
 rw[← hG]at hzr
 obtain⟨R,hR⟩:∃R:Array Value,R=(pvs (L.take i)).toArray++Builtin.zeroCells (Value.pointer none).cells (n+1-i)++Builtin.zeroCells (Value.pointer none).cells (G-(n+1)):=⟨_,rfl⟩
 rw[← hR]at hzr
 have hRs:R.size=G:=by
  rw[hR]
  simp only[Array.size_append,size_zeroCells,List.size_toArray,hta]
  have:(Value.pointer none).cells.size=1:=rfl
  rw[this];omega
 have hRt:R.toList.take (i)=pvs (L.take i):=by
  rw[hR]
  simp only[Array.toList_append,List.append_assoc]
  rw[List.take_append_of_le_length (by rw[hta];omega),List.take_of_length_le (by rw[hta];omega)]
 obtain⟨N,hN⟩:∃N,w.heap.size=N:=⟨_,rfl⟩
 obtain⟨W1,hW1⟩:∃W1,W1=w.drew.alloc (.cells R 117):=⟨_,rfl⟩
 rw[← hW1,hN]at hzr
 have hgl:g<N:=by rw[← hN];exact block_lt hg
 have hvl:vb<N:=by rw[← hN];exact block_lt hvb
 have hN1:W1.heap[N]? =some (.cells R 117 (0,0)):=by rw[hW1,← hN];exact heap_alloc_new w.drew _
 have hold1:∀k,k<N→W1.heap[k]? =w.heap[k]? :=λk hk=>by rw[hW1];exact heap_alloc_old w.drew _ (by rw[← hN]at hk;exact hk)
 have hcpA:∀dc,(Builtin.copy_ #[72,72] 3 #[.slice (some ⟨N,i,none⟩) (n+1-i) dc,.slice (some ⟨vb,0,none⟩) 1 1]).run Tryz.prog W1=_:=λdc=>
  csz W1 72 72 3 N (i) (n+1-i) dc ⟨vb,0,none⟩ 1 1 R 117 [pv x] 1 Tryz.underlying72 hN1 (by simp only[Nat.min_def];split<;>omega) rfl
   (λj v hj=>by rw[Addr.add_lit];refine(cellOf ((hold1 vb hvl).trans hvb) (0+j)).trans ?_;rw[Nat.zero_add];simpa using hj) (by rw[hRs];simp[pv];omega) (by intro u hu;simp[pv]at hu;rcases hu with rfl;rfl)
 obtain⟨A1,hA1⟩:∃A1,A1=(R.toList.take (i)++[pv x]++R.toList.drop (i+[pv x].length)).toArray:=⟨_,rfl⟩
 rw[← hA1]at hcpA
 have hRl:R.toList.length=G:=by rw[Array.length_toList,hRs]
 have hA1s:A1.size=G:=by rw[hA1,← Array.length_toList];simp[pv];omega
 obtain⟨W2,hW2⟩:∃W2,W2=W1.setRow N A1:=⟨_,rfl⟩
 rw[← hW2]at hcpA
 have hN2:W2.heap[N]? =some (.cells A1 117 (0,0)):=by rw[hW2];exact setRow_heap _ _ R _ 117 (0,0) hN1
 have hold2:∀k,k<N→W2.heap[k]? =w.heap[k]? :=λk hk=>by rw[hW2,setRow_other _ _ _ _ (by omega)];exact hold1 k hk
 have hcpB:∀dc sc,(Builtin.copy_ #[72,72] 3 #[.slice (some ⟨N,(i+1),none⟩) (n-i) dc,.slice (some ⟨g,i,none⟩) (n-i) sc]).run Tryz.prog W2.drew=_:=λdc sc=>
  csz W2.drew 72 72 3 N ((i+1)) (n-i) dc ⟨g,i,none⟩ (n-i) sc A1 117 (pvs (L.drop i)) (n-i) Tryz.underlying72 hN2 (by simp only[Nat.min_def];split<;>omega) hdr
   (λj v hj=>by rw[Addr.add_lit];exact hcell W2.drew i j v ((hold2 g hgl).trans hg) hj) (by rw[hdr,hA1s];omega) (dVz _)
 obtain⟨A2,hA2⟩:∃A2,A2=(A1.toList.take ((i+1))++pvs (L.drop i)++A1.toList.drop ((i+1)+(pvs (L.drop i)).length)).toArray:=⟨_,rfl⟩
 rw[← hA2]at hcpB
 have H:Hid (eNz base (.slice (some ⟨g,0,none⟩) n cap) (L.take i++x::L.drop i) w (.returned (.slice (some ⟨N,0,none⟩) (n+1) G)) (W2.drew.setRow N A2)):=by
  have hsz:w.heap.size≤(W2.drew.setRow N A2).heap.size:=by rw[hW2,hW1];simp
  refine⟨_,rfl, ?_,⟨?_, ?_, ?_,hsz, ?_⟩,.inr (by rw[hN];rfl)⟩
  ·have hlen:(L.take i++x::L.drop i).length=n+1:=by rw[hn];simp;omega
   refine⟨by rw[Nat.mul_one];exact aPz _,.inr ⟨N,G,A2,by rw[hlen],by omega,setRow_heap _ _ A1 _ 117 (0,0) hN2,by omega,hGm, ?_, ?_⟩⟩
   ·rw[hA2]
    have:A1.toList.length=G:=by rw[Array.length_toList,hA1s]
    simp[hdr];omega
   ·rw[Nat.mul_one,hlen,hA2,hA1,List.toList_toArray,List.toList_toArray,hdr]
    have e:=fYz R.toList [pv x] (pvs (L.drop i)) (i) ((n-i)) (by omega) rfl hdr
    rw[show i+1=(i+1) by omega,show(i+1)+(n-i)=(n+1) by omega]at e
    rw[show i+[pv x].length=(i+1) by rfl,show(i+1)+(n-i)=(n+1) by omega,e,brz,dJz,hRt,List.append_assoc]
  ·rw[hW2,hW1];rfl
  ·rw[hW2,hW1];rfl
  ·rw[hW2,hW1];rfl
  ·intro k hk _
   rw[setRow_other _ _ _ _ (by omega)]
   exact hold2 k (by omega)
 rw[← hn]
 rw[← hn]at hi hl hroom hnc
 have hcm':cap≤9223372036854775807:=by unfold maxLen at hm;omega
 have hGm':G≤9223372036854775807:=by unfold maxLen at hGm;omega
 clear hg hs ht hvb hcur hdr hA1 hA1s hN1 hN2 hold1 hold2 hA2 hW1 hW2 hm hn hR hRs hRt hRl hcell hold hi0 hz0 hz1 hz2 hta hG hGm hN hkk
 go_enter Tryz.func71,Tryz.ntmps71
 go_wp2_with (at_builtin;refine Lib.wpList_append_run _ rfl _ _ _ _ rfl _ _ rfl rfl _ _ hzr ?_)
 go_region
 go_wp2
 go_ret
 exact H.out
theorem hmz (base i vb:Nat) (v:Value) (L:List Nat) (x:Nat) (w:World) (h:RowP 117 w base v L) (hi:i≤L.length) (hl:L.length≤1000) (hb:base≤w.heap.size) (hvb:w.heap[vb]? =some (.cells [pv x].toArray 117 (0,0))) (hne:v.ownBlock≠some vb):
  Calls Tryz.prog 71 #[v,.int .i64 (i:Nat),.slice (some ⟨vb,0,none⟩) 1 1] w (eNz base v (L.take i++x::L.drop i) w):=by
 rcases Nat.eq_or_lt_of_le hi with rfl|hi'
 ·have:=hvz base vb v L x w h hl hb hvb
  rw[List.take_of_length_le (Nat.le_refl _),List.drop_of_length_le (Nat.le_refl _)]
  exact this
 ·rcases h.two with⟨_,h0⟩|⟨g,cap,cur,rfl,hbg,hg,hn,hm,hs,ht⟩
  ·rw[h0]at hi';simp at hi'
  ·by_cases hroom:L.length+1≤cap
   ·exact fuz base i vb g cap cur L x w hbg hg hm hs ht hi' hl hroom hvb (λe=>hne (by rw[e];rfl))
   ·exact gvz base i vb g cap cur L x w hb hg hm hs ht hi' hl hn (by omega) hvb
end Go.Proofs.YthhakekbffembaaGreatDoor.Ck.Y

namespace Go.Proofs.YthhakekbffembaaGreatDoor.Ck.Y
open Go.RowKit Go.Maps Go.Lib
theorem gjz:∃i,Tryz.prog.info? 125=some i∧i.zero=some (.pointer none)∧i.size=1∧i.bytes=8:=by
 have e:(Tryz.prog.info? 125).map (λi=>(i.zero,i.size,i.bytes))=some (some (.pointer none),1,8):=by kernel_rfl
 obtain⟨i,hi,he⟩:=Option.map_eq_some_iff.1 e
 injection he with h1 h2
 injection h2 with h2 h3
 exact⟨i,hi,h1,h2,h3⟩
def fcz (base:Nat) (v:Value) (M:List Nat) (w:World) (e:Ending) (w':World):Prop:=∃v',e=.returned v'∧RowP 125 w' base v' M∧w.grownBy w' v.ownBlock∧(v'.ownBlock=v.ownBlock∨v'.ownBlock=some w.heap.size)
theorem gMz (base vb:Nat) (v:Value) (L:List Nat) (x:Nat) (w:World) (h:RowP 125 w base v L) (hl:L.length≤1000) (hb:base≤w.heap.size) (hvb:w.heap[vb]? =some (.cells [pv x].toArray 125 (0,0))):
  Calls Tryz.prog 185 #[v,.int .i64 (L.length:Nat),.slice (some ⟨vb,0,none⟩) 1 1] w (fcz base v (L++[x]) w):=by
 obtain⟨i0,hi0,hz0,hz1,hz2⟩:=gjz
 obtain⟨p,c,rfl,hlc,hcm,_⟩:=h.form
 obtain⟨v',w',hr,h2,h3,_,h5⟩:=run_append_own_at (P:=Tryz.prog) w base 129 129 125 i0 _ 1 8 Tryz.underlying129 hi0 hz0 hz1 hz2 rfl (by omega) _ L.length (pvs L) h ⟨vb,0,none⟩ 1 1 [pv x] rfl
  (λj u hj=>by rw[Addr.add_lit,cellOf hvb];simpa using hj) (by intro u hu;simp[pv]at hu;rcases hu with rfl;rfl) (by unfold maxLen;omega) (by omega) hb
 have H:Hid (fcz base (.slice p L.length c) (L++[x]) w (.returned v') w'):=⟨v',rfl,RowP.ext h2 (by simp) (by rw[brz];simp[pvs]),h3,h5⟩
 have hcm':c≤9223372036854775807:=by unfold maxLen at hcm;omega
 clear h hvb h2 h3 h5 hi0 hz0 hcm
 generalize L.length=n at*
 go_enter Tryz.func185,Tryz.ntmps185
 rcases p with _|⟨ab,ao,asp⟩
 ·go_wp2_with (at_builtin;refine Lib.wpList_append_run _ rfl _ _ _ _ rfl _ _ rfl rfl _ _ hr ?_)
  all_goals(go_ret;exact H.out)
 ·go_wp2_with (at_builtin;refine Lib.wpList_append_run _ rfl _ _ _ _ rfl _ _ rfl rfl _ _ hr ?_)
  all_goals(go_ret;exact H.out)
theorem cwz (w:World) (dT sT ty:TypeId) (g o dLen dCap:Nat) (a:Addr) (sLen sCap:Nat) (cur:Array Value) (t:TypeId) (cs:List Value) (k:Nat) (hu:Tryz.prog.underlying dT=some (.slice 125)) (hg:w.heap[g]? =some (.cells cur t (0,0))) (hk:Nat.min sLen dLen=k) (hn:cs.length=k) (hsrc:∀j v,cs[j]? =some v→w.cell? (a.add j)=some v) (hfit:o+cs.length≤cur.size) (h1:∀v∈cs,v.oneCell'=true):
  (Builtin.copy_ #[dT,sT] ty #[.slice (some ⟨g,o,none⟩) dLen dCap,.slice (some a) sLen sCap]).run Tryz.prog w=
   .ok (goInt k) (w.setRow g (cur.toList.take o++cs++cur.toList.drop (o+cs.length)).toArray):=by
 have hl:=run_loadCells_list (P:=Tryz.prog) w a cs hsrc
 have hst:=run_storeCells_at Tryz.prog g o t cs 0 cur w hg (by simpa using hfit) h1
 obtain⟨i0,hi0,hz0,hz1,hz2⟩:=gjz
 rw[hn]at hl
 simp[Builtin.copy_,run_underlying hu,Builtin.lenOf,Builtin.firstCells,sizeOf,typeInfo,hi0,hz1,hk,hl,hst]
theorem gcz (w:World) (vb g la ca lb cb o:Nat) (cur ds:Array Value) (hne:vb≠g) (hvb:w.heap[vb]? =some (.cells ds 125 (0,0))) (hg:w.heap[g]? =some (.cells cur 125 (0,0))) (h0:cur.size≠0):
  (callFunc 204 #[.slice (some ⟨vb,0,none⟩) la ca,.slice (some ⟨g,o,none⟩) lb cb]).run Tryz.prog w=.ok (.value (.bool false)) w:=by
 rw[run_callFunc_extern Tryz.func204 (by kernel_rfl) (by kernel_rfl) (by kernel_rfl) (e:=Extern.SlicesOverlaps.overlaps #[129,129] #[4]) (by kernel_rfl),
  Lib.run_overlaps_apart w 129 4 125 Tryz.underlying129 1 Tryz.sizeOf125 ⟨vb,0,none⟩ ⟨g,o,none⟩ la ca lb cb hne 125 125 ds.size cur.size (by unfold World.shape?;rw[hvb]) (by unfold World.shape?;rw[hg]) h0 (by simp[World.frozen?,hvb]) (by simp[World.frozen?,hvb])]
 rfl
theorem fvz (base i vb g cap:Nat) (cur:Array Value) (L:List Nat) (x:Nat) (w:World) (hbg:base≤g) (hg:w.heap[g]? =some (.cells cur 125 (0,0))) (hm:cap≤maxLen) (hs:cur.size=cap) (ht:cur.toList.take (L.length)=pvs L) (hi:i<L.length) (hl:L.length≤1000) (hroom:L.length+1≤cap) (hvb:w.heap[vb]? =some (.cells [pv x].toArray 125 (0,0))) (hne:vb≠g):
  Calls Tryz.prog 185 #[.slice (some ⟨g,0,none⟩) L.length cap,.int .i64 (i:Nat),.slice (some ⟨vb,0,none⟩) 1 1] w (fcz base (.slice (some ⟨g,0,none⟩) L.length cap) (L.take i++x::L.drop i) w):=by
 have hov:=λlb cb=>gcz w vb g 1 1 lb cb ((i+1)) cur _ hne hvb hg (by omega)
 obtain⟨n,hn⟩:∃n,n=L.length:=⟨_,rfl⟩
 have hcur:cur.toList.length=cap:=by rw[Array.length_toList,hs]
 have hdr:(pvs (L.drop i)).length=(n-i):=by rw[aPz,List.length_drop,hn]
 have hcp1:∀dc sc,(Builtin.copy_ #[129,129] 3 #[.slice (some ⟨g,(i+1),none⟩) (n-i) dc,.slice (some ⟨g,i,none⟩) (n+1-i) sc]).run Tryz.prog w.drew=_:=λdc sc=>
  cwz w.drew 129 129 3 g ((i+1)) (n-i) dc ⟨g,i,none⟩ (n+1-i) sc cur 125 (pvs (L.drop i)) (n-i) Tryz.underlying129 hg (by simp only[Nat.min_def];split<;>omega) hdr
   (λj v hj=>by
    rw[Addr.add_lit]
    have hj':=(List.getElem?_eq_some_iff.1 hj).1
    rw[hdr]at hj'
    refine(cellOf hg (i+j)).trans ?_
    rw[← Array.getElem?_toList]
    have:(cur.toList.take (L.length))[i+j]? =some v:=by
     rw[ht,← List.getElem?_drop,cKz];exact hj
    rw[List.getElem?_take]at this
    split at this
    ·exact this
    ·cases this) (by rw[hdr,hs];omega) (dVz _)
 obtain⟨A1,hA1⟩:∃A1,A1=(cur.toList.take ((i+1))++pvs (L.drop i)++cur.toList.drop ((i+1)+(pvs (L.drop i)).length)).toArray:=⟨_,rfl⟩
 rw[← hA1]at hcp1
 have hA1s:A1.size=cap:=by
  rw[hA1,← Array.length_toList];simp[hdr,hs];omega
 obtain⟨W1,hW1⟩:∃W1,W1=w.drew.setRow g A1:=⟨_,rfl⟩
 rw[← hW1]at hcp1
 have hg1:W1.heap[g]? =some (.cells A1 125 (0,0)):=by rw[hW1];exact setRow_heap _ _ cur _ 125 (0,0) hg
 have hv1:W1.heap[vb]? =some (.cells [pv x].toArray 125 (0,0)):=by rw[hW1,setRow_other _ _ _ _ hne];exact hvb
 have hcp2:∀dc,(Builtin.copy_ #[129,129] 3 #[.slice (some ⟨g,i,none⟩) (n+1-i) dc,.slice (some ⟨vb,0,none⟩) 1 1]).run Tryz.prog W1=_:=λdc=>
  cwz W1 129 129 3 g (i) (n+1-i) dc ⟨vb,0,none⟩ 1 1 A1 125 [pv x] 1 Tryz.underlying129 hg1 (by simp only[Nat.min_def];split<;>omega) rfl
   (λj v hj=>by rw[Addr.add_lit];refine(cellOf hv1 (0+j)).trans ?_;rw[Nat.zero_add];simpa using hj) (by rw[hA1s];simp[pv];omega) (by intro u hu;simp[pv]at hu;rcases hu with rfl;rfl)
 obtain⟨A2,hA2⟩:∃A2,A2=(A1.toList.take (i)++[pv x]++A1.toList.drop (i+[pv x].length)).toArray:=⟨_,rfl⟩
 rw[← hA2]at hcp2
 have H:Hid (fcz base (.slice (some ⟨g,0,none⟩) n cap) (L.take i++x::L.drop i) w (.returned (.slice (some ⟨g,0,none⟩) (n+1) cap)) (W1.setRow g A2)):=by
  refine⟨_,rfl, ?_,⟨?_, ?_, ?_, ?_, ?_⟩,.inl rfl⟩
  ·have hlen:(L.take i++x::L.drop i).length=n+1:=by rw[hn];simp;omega
   refine⟨by rw[Nat.mul_one];exact aPz _,.inr ⟨g,cap,A2,by rw[hlen],hbg,setRow_heap _ _ A1 _ 125 (0,0) hg1,by omega,hm, ?_, ?_⟩⟩
   ·rw[hA2]
    have:A1.toList.length=cap:=by rw[Array.length_toList,hA1s]
    simp[pv];omega
   ·rw[Nat.mul_one,hlen,hA2,hA1,List.toList_toArray,List.toList_toArray]
    have e:=eJz cur.toList [pv x] (pvs (L.drop i)) (cur.toList.drop ((i+1)+(pvs (L.drop i)).length)) (i) ((n-i)) (by omega) rfl hdr
    rw[show i+1=(i+1) by omega,show(i+1)+(n-i)=(n+1) by omega]at e
    rw[show i+[pv x].length=(i+1) by rfl,e,brz,dJz,← cJz,← ht,List.take_take,Nat.min_eq_left (by omega),List.append_assoc]
  ·rw[hW1];rfl
  ·rw[hW1];rfl
  ·rw[hW1];rfl
  ·rw[hW1];simp
  ·intro k hk hkg
   have:k≠g:=λe=>hkg (by rw[e];rfl)
   rw[setRow_other _ _ _ _ this,hW1,setRow_other _ _ _ _ this];rfl
 rw[← hn]
 rw[← hn]at hi hl hroom
 have hcm':cap≤9223372036854775807:=by unfold maxLen at hm;omega
 clear hg hs ht hvb hcur hdr hA1 hA1s hg1 hv1 hA2 hW1 hm hn
 go_enter Tryz.func185,Tryz.ntmps185
 go_wp2_with (simp only[hov])
 go_region
 go_wp2
 go_ret
 exact H.out
theorem glz (base i vb g cap:Nat) (cur:Array Value) (L:List Nat) (x:Nat) (w:World) (hbw:base≤w.heap.size) (hg:w.heap[g]? =some (.cells cur 125 (0,0))) (hm:cap≤maxLen) (hs:cur.size=cap) (ht:cur.toList.take (L.length)=pvs L) (hi:i<L.length) (hl:L.length≤1000) (hnc:L.length≤cap) (hroom:cap<L.length+1) (hvb:w.heap[vb]? =some (.cells [pv x].toArray 125 (0,0))):
  Calls Tryz.prog 185 #[.slice (some ⟨g,0,none⟩) L.length cap,.int .i64 (i:Nat),.slice (some ⟨vb,0,none⟩) 1 1] w (fcz base (.slice (some ⟨g,0,none⟩) L.length cap) (L.take i++x::L.drop i) w):=by
 obtain⟨i0,hi0,hz0,hz1,hz2⟩:=gjz
 obtain⟨n,hn⟩:∃n,n=L.length:=⟨_,rfl⟩
 have hcur:cur.toList.length=cap:=by rw[Array.length_toList,hs]
 have hdr:(pvs (L.drop i)).length=(n-i):=by rw[aPz,List.length_drop,hn]
 have hta:(pvs (L.take i)).length=i:=by rw[aPz,List.length_take];omega
 have hcell:∀(W:World) (k j:Nat) (v:Value),W.heap[g]? =some (.cells cur 125 (0,0))→(pvs (L.drop k))[j]? =some v→W.cell? ⟨g,k+j,none⟩=some v:=λW k j v hW hj=>by
  refine(cellOf hW (k+j)).trans ?_
  rw[← Array.getElem?_toList]
  have:(cur.toList.take (L.length))[k+j]? =some v:=by
   rw[ht,← List.getElem?_drop,cKz];exact hj
  rw[List.getElem?_take]at this
  split at this
  ·exact this
  ·cases this
 have hold:(Builtin.firstCells i0.size i (.slice (some ⟨g,0,none⟩) i cap)).run Tryz.prog w.drew=.ok (pvs (L.take i)).toArray w.drew:=by
  rw[hz1]
  refine run_firstCells_some w.drew 1 i ⟨g,0,none⟩ i cap (pvs (L.take i)) (by rw[Nat.mul_one];exact hta) (λj v hj=> ?_)
  rw[Addr.add_lit]
  have:=hcell w.drew 0 j v hg (by
   rw[← cJz,List.getElem?_take]at hj
   split at hj
   ·exact hj
   ·cases hj)
  exact this
 have hzr:=Lib.run_append_grow_zeros (P:=Tryz.prog) w 129 3 129 125 i0 _ .i64 .i64 Tryz.underlying129 (by kernel_rfl) hi0 hz0 (some ⟨g,0,none⟩) i cap (pvs (L.take i)) hold (n+1-i) (by omega) (by omega) (by omega) (by omega) (by rw[hz2];omega)
  (by rw[hz2,show i+(n+1-i)=n+1 by omega];exact growslice_fits (by omega) (by omega))
 rw[show i+(n+1-i)=n+1 by omega]at hzr
 have hkk:(n:Int)+1-(i:Int)=((n+1-i:Nat):Int):=by omega
 rw[← hkk]at hzr
 obtain⟨G,hG⟩:∃G,G=grownCap w (n+1) cap 125:=⟨_,rfl⟩
 have hGn:n+1≤G:=by rw[hG];exact grownCap_ge w _ _ _
 have hGm:G≤maxLen:=by rw[hG];exact grownCap_le_maxLen w _ _ _ (by unfold maxLen;omega)
 rw[← hG]at hzr
 obtain⟨R,hR⟩:∃R:Array Value,R=(pvs (L.take i)).toArray++Builtin.zeroCells (Value.pointer none).cells (n+1-i)++Builtin.zeroCells (Value.pointer none).cells (G-(n+1)):=⟨_,rfl⟩
 rw[← hR]at hzr
 have hRs:R.size=G:=by
  rw[hR]
  simp only[Array.size_append,size_zeroCells,List.size_toArray,hta]
  have:(Value.pointer none).cells.size=1:=rfl
  rw[this];omega
 have hRt:R.toList.take (i)=pvs (L.take i):=by
  rw[hR]
  simp only[Array.toList_append,List.append_assoc]
  rw[List.take_append_of_le_length (by rw[hta];omega),List.take_of_length_le (by rw[hta];omega)]
 obtain⟨N,hN⟩:∃N,w.heap.size=N:=⟨_,rfl⟩
 obtain⟨W1,hW1⟩:∃W1,W1=w.drew.alloc (.cells R 125):=⟨_,rfl⟩
 rw[← hW1,hN]at hzr
 have hgl:g<N:=by rw[← hN];exact block_lt hg
 have hvl:vb<N:=by rw[← hN];exact block_lt hvb
 have hN1:W1.heap[N]? =some (.cells R 125 (0,0)):=by rw[hW1,← hN];exact heap_alloc_new w.drew _
 have hold1:∀k,k<N→W1.heap[k]? =w.heap[k]? :=λk hk=>by rw[hW1];exact heap_alloc_old w.drew _ (by rw[← hN]at hk;exact hk)
 have hcpA:∀dc,(Builtin.copy_ #[129,129] 3 #[.slice (some ⟨N,i,none⟩) (n+1-i) dc,.slice (some ⟨vb,0,none⟩) 1 1]).run Tryz.prog W1=_:=λdc=>
  cwz W1 129 129 3 N (i) (n+1-i) dc ⟨vb,0,none⟩ 1 1 R 125 [pv x] 1 Tryz.underlying129 hN1 (by simp only[Nat.min_def];split<;>omega) rfl
   (λj v hj=>by rw[Addr.add_lit];refine(cellOf ((hold1 vb hvl).trans hvb) (0+j)).trans ?_;rw[Nat.zero_add];simpa using hj) (by rw[hRs];simp[pv];omega) (by intro u hu;simp[pv]at hu;rcases hu with rfl;rfl)
 obtain⟨A1,hA1⟩:∃A1,A1=(R.toList.take (i)++[pv x]++R.toList.drop (i+[pv x].length)).toArray:=⟨_,rfl⟩
 rw[← hA1]at hcpA
 have hRl:R.toList.length=G:=by rw[Array.length_toList,hRs]
 have hA1s:A1.size=G:=by rw[hA1,← Array.length_toList];simp[pv];omega
 obtain⟨W2,hW2⟩:∃W2,W2=W1.setRow N A1:=⟨_,rfl⟩
 rw[← hW2]at hcpA
 have hN2:W2.heap[N]? =some (.cells A1 125 (0,0)):=by rw[hW2];exact setRow_heap _ _ R _ 125 (0,0) hN1
 have hold2:∀k,k<N→W2.heap[k]? =w.heap[k]? :=λk hk=>by rw[hW2,setRow_other _ _ _ _ (by omega)];exact hold1 k hk
 have hcpB:∀dc sc,(Builtin.copy_ #[129,129] 3 #[.slice (some ⟨N,(i+1),none⟩) (n-i) dc,.slice (some ⟨g,i,none⟩) (n-i) sc]).run Tryz.prog W2.drew=_:=λdc sc=>
  cwz W2.drew 129 129 3 N ((i+1)) (n-i) dc ⟨g,i,none⟩ (n-i) sc A1 125 (pvs (L.drop i)) (n-i) Tryz.underlying129 hN2 (by simp only[Nat.min_def];split<;>omega) hdr
   (λj v hj=>by rw[Addr.add_lit];exact hcell W2.drew i j v ((hold2 g hgl).trans hg) hj) (by rw[hdr,hA1s];omega) (dVz _)
 obtain⟨A2,hA2⟩:∃A2,A2=(A1.toList.take ((i+1))++pvs (L.drop i)++A1.toList.drop ((i+1)+(pvs (L.drop i)).length)).toArray:=⟨_,rfl⟩
 rw[← hA2]at hcpB
 have H:Hid (fcz base (.slice (some ⟨g,0,none⟩) n cap) (L.take i++x::L.drop i) w (.returned (.slice (some ⟨N,0,none⟩) (n+1) G)) (W2.drew.setRow N A2)):=by
  have hsz:w.heap.size≤(W2.drew.setRow N A2).heap.size:=by rw[hW2,hW1];simp
  refine⟨_,rfl, ?_,⟨?_, ?_, ?_,hsz, ?_⟩,.inr (by rw[hN];rfl)⟩
  ·have hlen:(L.take i++x::L.drop i).length=n+1:=by rw[hn];simp;omega
   refine⟨by rw[Nat.mul_one];exact aPz _,.inr ⟨N,G,A2,by rw[hlen],by omega,setRow_heap _ _ A1 _ 125 (0,0) hN2,by omega,hGm, ?_, ?_⟩⟩
   ·rw[hA2]
    have:A1.toList.length=G:=by rw[Array.length_toList,hA1s]
    simp[hdr];omega
   ·rw[Nat.mul_one,hlen,hA2,hA1,List.toList_toArray,List.toList_toArray,hdr]
    have e:=fYz R.toList [pv x] (pvs (L.drop i)) (i) ((n-i)) (by omega) rfl hdr
    rw[show i+1=(i+1) by omega,show(i+1)+(n-i)=(n+1) by omega]at e
    rw[show i+[pv x].length=(i+1) by rfl,show(i+1)+(n-i)=(n+1) by omega,e,brz,dJz,hRt,List.append_assoc]
  ·rw[hW2,hW1];rfl
  ·rw[hW2,hW1];rfl
  ·rw[hW2,hW1];rfl
  ·intro k hk _
   rw[setRow_other _ _ _ _ (by omega)]
   exact hold2 k (by omega)
 rw[← hn]
 rw[← hn]at hi hl hroom hnc
 have hcm':cap≤9223372036854775807:=by unfold maxLen at hm;omega
 have hGm':G≤9223372036854775807:=by unfold maxLen at hGm;omega
 clear hg hs ht hvb hcur hdr hA1 hA1s hN1 hN2 hold1 hold2 hA2 hW1 hW2 hm hn hR hRs hRt hRl hcell hold hi0 hz0 hz1 hz2 hta hG hGm hN hkk
 go_enter Tryz.func185,Tryz.ntmps185
 go_wp2_with (at_builtin;refine Lib.wpList_append_run _ rfl _ _ _ _ rfl _ _ rfl rfl _ _ hzr ?_)
 go_region
 go_wp2
 go_ret
 exact H.out
theorem ekz (base i vb:Nat) (v:Value) (L:List Nat) (x:Nat) (w:World) (h:RowP 125 w base v L) (hi:i≤L.length) (hl:L.length≤1000) (hb:base≤w.heap.size) (hvb:w.heap[vb]? =some (.cells [pv x].toArray 125 (0,0))) (hne:v.ownBlock≠some vb):
  Calls Tryz.prog 185 #[v,.int .i64 (i:Nat),.slice (some ⟨vb,0,none⟩) 1 1] w (fcz base v (L.take i++x::L.drop i) w):=by
 rcases Nat.eq_or_lt_of_le hi with rfl|hi'
 ·have:=gMz base vb v L x w h hl hb hvb
  rw[List.take_of_length_le (Nat.le_refl _),List.drop_of_length_le (Nat.le_refl _)]
  exact this
 ·rcases h.two with⟨_,h0⟩|⟨g,cap,cur,rfl,hbg,hg,hn,hm,hs,ht⟩
  ·rw[h0]at hi';simp at hi'
  ·by_cases hroom:L.length+1≤cap
   ·exact fvz base i vb g cap cur L x w hbg hg hm hs ht hi' hl hroom hvb (λe=>hne (by rw[e];rfl))
   ·exact glz base i vb g cap cur L x w hb hg hm hs ht hi' hl hn (by omega) hvb
theorem gWz (w:World) (ty:TypeId) (g o c:Nat) (cur:Array Value) (t:TypeId) (hg:w.heap[g]? =some (.cells cur t (0,0))) (hfit:o+1≤cur.size):
  (Builtin.clear_ #[129] ty #[.slice (some ⟨g,o,none⟩) 1 c]).run Tryz.prog w=.ok (.tuple #[]) (w.setRow g (cur.toList.take o++([.pointer none]:List Value)++cur.toList.drop (o+1)).toArray):=by
 have hst:=run_storeCells_at Tryz.prog g o t [.pointer none] 0 cur w hg (by simpa using hfit) (by intro u hu;simp at hu;rcases hu with rfl;rfl)
 have hz:(Builtin.zeroCells (Value.pointer none).cells 1).toList=[.pointer none]:=by kernel_rfl
 simp only[Nat.add_zero,List.length_cons,List.length_nil]at hst
 simp[Builtin.clear_,run_underlying Tryz.underlying129,Tryz.zeroValue125,hz,hst]
def nAz (base:Nat) (v:Value) (M:List Nat) (w:World) (e:Ending) (w':World):Prop:=∃v',e=.returned v'∧RowP 125 w' base v' M∧w.grownBy w' v.ownBlock∧v'.ownBlock=v.ownBlock
theorem epz (base i j:Nat) (v:Value) (L:List Nat) (w:World) (h:RowP 125 w base v L) (hij:j=i+1) (hi:i<L.length) (hl:L.length≤1001):
  Calls Tryz.prog 184 #[v,.int .i64 (i:Nat),.int .i64 (j:Nat)] w (nAz base v (L.take i++L.drop j) w):=by
 obtain⟨i0,hi0,hz0,hz1,hz2⟩:=gjz
 rcases h.two with⟨_,h0⟩|⟨g,cap,cur,rfl,hbg,hg,hnc,hm,hs,ht⟩
 ·rw[h0]at hi;simp at hi
 obtain⟨n,hn⟩:∃n,n=L.length:=⟨_,rfl⟩
 have hcur:cur.toList.length=cap:=by rw[Array.length_toList,hs]
 have hdr:(pvs (L.drop j)).length=(n-j):=by rw[aPz,List.length_drop,hn]
 have hta:(pvs (L.take i)).length=i:=by rw[aPz,List.length_take];omega
 obtain⟨A,hA,hsrc⟩:∃A:Addr,(if cap=j then some (⟨g,0,none⟩:Addr)else some ⟨g,j,none⟩)=some A∧∀q u,(pvs (L.drop j))[q]? =some u→w.drew.cell? (A.add q)=some u:=by
  by_cases hc:cap=j
  ·refine⟨⟨g,0,none⟩,by simp[hc],λq u hj=> ?_⟩
   have:=(List.getElem?_eq_some_iff.1 hj).1
   rw[hdr]at this;omega
  ·refine⟨⟨g,j,none⟩,by simp[hc],λq u hj=> ?_⟩
   rw[Addr.add_lit]
   refine(cellOf hg (j+q)).trans ?_
   rw[← Array.getElem?_toList]
   have:(cur.toList.take (L.length))[j+q]? =some u:=by
    rw[ht,← List.getElem?_drop,cKz];exact hj
   rw[List.getElem?_take]at this
   split at this
   ·exact this
   ·cases this
 have hap:=run_append_room (P:=Tryz.prog) w.drew 129 129 125 i0 Tryz.underlying129 hi0 g i cap cur hg A (n-j) (cap-j) (pvs (L.drop j)) (by rw[hz1,hdr,Nat.mul_one]) hsrc (dVz _) (by omega) (by rw[hz1,hdr];omega)
 rw[hz1,hdr,Nat.mul_one]at hap
 obtain⟨A1,hA1⟩:∃A1,A1=(cur.toList.take (i)++pvs (L.drop j)++cur.toList.drop (i+(n-j))).toArray:=⟨_,rfl⟩
 rw[← hA1]at hap
 have hA1s:A1.size=cap:=by rw[hA1,← Array.length_toList];simp[hdr];omega
 obtain⟨W1,hW1⟩:∃W1,W1=w.drew.setRow g A1:=⟨_,rfl⟩
 rw[← hW1]at hap
 have hg1:W1.heap[g]? =some (.cells A1 125 (0,0)):=by rw[hW1];exact setRow_heap _ _ cur _ 125 (0,0) hg
 have hcl:∀ty c,_:=λty c=>gWz W1 ty g ((i+(n-j))) c A1 125 hg1 (by rw[hA1s];omega)
 obtain⟨A2,hA2⟩:∃A2,A2=(A1.toList.take ((i+(n-j)))++([.pointer none]:List Value)++A1.toList.drop ((i+(n-j))+1)).toArray:=⟨_,rfl⟩
 rw[← hA2]at hcl
 have hcl':∀ty c,(Builtin.clear_ #[129] ty #[.slice (some ⟨g,(i+(n-j)),none⟩) (n-(i+(n-j))) c]).run Tryz.prog W1=.ok (.tuple #[]) (W1.setRow g A2):=λty c=>by
  rw[show n-(i+(n-j))=1 by omega];exact hcl ty c
 clear hcl
 have H:Hid (nAz base (.slice (some ⟨g,0,none⟩) n cap) (L.take i++L.drop j) w (.returned (.slice (some ⟨g,0,none⟩) (i+(n-j)) cap)) (W1.setRow g A2)):=by
  have hlen:(L.take i++L.drop j).length=i+(n-j):=by rw[hn];simp;omega
  refine⟨_,rfl, ?_,⟨?_, ?_, ?_, ?_, ?_⟩,rfl⟩
  ·refine⟨by rw[Nat.mul_one];exact aPz _,.inr ⟨g,cap,A2,by rw[hlen],hbg,setRow_heap _ _ A1 _ 125 (0,0) hg1,by omega,hm, ?_, ?_⟩⟩
   ·rw[hA2]
    have:A1.toList.length=cap:=by rw[Array.length_toList,hA1s]
    simp;omega
   ·rw[Nat.mul_one,hlen,hA2,List.toList_toArray,List.append_assoc,List.take_append_of_le_length (by rw[List.length_take,Array.length_toList,hA1s];omega),List.take_take,Nat.min_self,hA1,List.toList_toArray,
     List.take_append_of_le_length (by simp[hdr];omega),List.take_of_length_le (by simp[hdr];omega),brz,← cJz,← ht,List.take_take,Nat.min_eq_left (by omega)]
  ·rw[hW1];rfl
  ·rw[hW1];rfl
  ·rw[hW1];rfl
  ·rw[hW1];simp
  ·intro k hk hkg
   have:k≠g:=λe=>hkg (by rw[e];rfl)
   rw[setRow_other _ _ _ _ this,hW1,setRow_other _ _ _ _ this];rfl
 rw[← hn]
 rw[← hn]at hi hl hnc
 have hcm':cap≤9223372036854775807:=by unfold maxLen at hm;omega
 have hic:i≤cap:=by omega
 have hjc:j≤cap:=by omega
 have hij1:i<j:=by omega
 have hjn:j≤n:=by omega
 clear hg hs ht hcur hdr hA1 hA1s hg1 hA2 hW1 hm hn hi0 hz0 hz1 hz2 hta h hsrc hij
 go_enter Tryz.func184,Tryz.ntmps184
 go_wp2_with fail
 go_region_law (refine dQz rfl _ _ 129 129 rfl _ _ (by simp[Act.eval,Act.put]) (by simp[Act.eval,Act.put]) hap ?_)
 go_wp2
 go_ret
 exact H.out
end Go.Proofs.YthhakekbffembaaGreatDoor.Ck.Y
