import Derived.Test.YthhakekbffembaaGreatDoorQAc
import Derived.Laws.AppendOwn
import Derived.Laws.IdiomStrings
import Derived.Maps.OwnOps
import Derived.Carry
import Derived.MapKept
set_option maxRecDepth 8000
set_option maxHeartbeats 1000000

namespace Go.Proofs.YthhakekbffembaaGreatDoor.Ck.Sh
open Go.RowKit Go.Lib
attribute [local go_sem] Oper.semAt_some
variable {w w':World} {xs:List Value} {base sz n by_ u0:Nat} {e:TypeId} {v z:Value} {ds:List UInt8}
def Cs (w:World) (p:Option Addr) (xs:List Value):Prop:=∀(j:Nat) (u:Value),xs[j]? =some u→∃g o,p=some ⟨g,o,none⟩∧w.cell? ⟨g,o+j,none⟩=some u
theorem Cs.below {p:Option Addr} (h:Cs w p xs) (hb:Below w.heap.size w w'):Cs w' p xs:=λj u hj=>by
 obtain⟨g,o,e,hc⟩:=h j u hj
 exact⟨g,o,e,cell_kept hc hb⟩
theorem Cs.of_own (h:w.ownsRow base e sz v n xs):∃p c,v=.slice p n c∧Cs w p xs:=by
 obtain⟨hl,⟨rfl,hn⟩|⟨g,cap,cur,rfl,_,hb,_,_,hs,ht⟩⟩:=h
 ·subst hn
  exact⟨none,0,rfl,λj u hj=>by
   have:=(List.getElem?_eq_some_iff.1 hj).1
   rw[hl]at this
   omega⟩
 ·refine⟨_,_,rfl,λj u hj=>⟨g,0,rfl, ?_⟩⟩
  have hjl:=(List.getElem?_eq_some_iff.1 hj).1
  rw[hl]at hjl
  rw[Nat.zero_add,cellOf hb j,← Array.getElem?_toList]
  rw[← ht,List.getElem?_take,if_pos hjl]at hj
  exact hj
theorem own_slice (h:w.ownsRow base e sz v n xs):∃p c,v=.slice p n c∧n≤c:=by
 obtain⟨hl,⟨rfl,hn⟩|⟨g,cap,cur,rfl,_,hb,h1,_⟩⟩:=h
 ·exact⟨none,0,by rw[hn],by omega⟩
 ·exact⟨_,_,rfl,h1⟩
theorem own_below (h:w.ownsRow base e sz v n xs) (hb:Below w.heap.size w w'):w'.ownsRow base e sz v n xs:=by
 obtain⟨hl,h|⟨g,cap,cur,rfl,h1,hg,h2⟩⟩:=h
 ·exact⟨hl,.inl h⟩
 ·exact⟨hl,.inr ⟨g,cap,cur,rfl,h1,(hb.block g (block_lt hg)).trans hg,h2⟩⟩
structure TI (e:TypeId) (z:Value) (sz by_:Nat):Prop where
 info:∃i,Tryz.prog.info? e=some i∧i.zero=some z∧i.size=sz∧i.bytes=by_
 cells:z.cells.size=sz
 pos:0<sz
theorem ti_of (h:(Tryz.prog.info? e).map (λi=>(i.zero,i.size,i.bytes))=some (some z,sz,by_)) (h1:z.cells.size=sz) (h2:0<sz):TI e z sz by_:=by
 obtain⟨i,hi,he⟩:=Option.map_eq_some_iff.1 h
 injection he with e1 e2
 injection e2 with e2 e3
 exact⟨⟨i,hi,e1,e2,e3⟩,h1,h2⟩
theorem gwz:TI 5 (.int .u8 0) 1 1:=ti_of (by kernel_rfl) rfl (by decide)
theorem ti_str:TI 9 (.string ⟨#[]⟩) 1 16:=ti_of (by kernel_rfl) rfl (by decide)
theorem ti_id:TI 28 (.agg #[.int .i64 0,.int .i64 0]) 2 16:=ti_of (by kernel_rfl) (by decide) (by decide)
theorem app_run {t:TypeId} (ht:Tryz.prog.underlying t=some (.slice e)) (hti:TI e z sz by_) (ty:TypeId) (w:World) (base:Nat) (v:Value) (n m:Nat) (xs news:List Value) (p:Option Addr) (c:Nat) (h1:w.ownsRow base e sz v n xs) (h2:Cs w p news) (hl:news.length=m*sz) (ho:∀u∈news,u.oneCell'=true) (hb:(n+m)*by_≤140737488355328) (hm:n+m≤140737488355328) (hbase:base≤w.heap.size):
  ∃p' c' w',(Builtin.append_ #[t,t] ty #[v,.slice p m c]).run Tryz.prog w=.ok (.slice p' (n+m) c') w'∧w'.ownsRow base e sz (.slice p' (n+m) c') (n+m) (xs++news)∧w.grownBy w' v.ownBlock:=by
 obtain⟨i0,hi0,hz0,hz1,hz2⟩:=hti.info
 by_cases hk:m=0
 ·subst hk
  have hnil:news=[]:=List.length_eq_zero_iff.1 (by rw[hl];simp)
  subst hnil
  obtain⟨p1,c1,rfl,hc⟩:=own_slice h1
  refine⟨p1,c1,w, ?_,by simpa using h1,⟨rfl,rfl,rfl,Nat.le_refl _,λ_ _ _=>rfl⟩⟩
  cases p1<;>cases p<;>simp[Builtin.append_,run_underlying ht,sizeOf,typeInfo,hi0,Builtin.lenOf,Builtin.firstCells,hc,storeCells,loadCells,loadCellsFrom]
 ·have hpos:0<news.length:=by
   rw[hl]
   exact Nat.mul_pos (by omega) hti.pos
  obtain⟨g,o,rfl,_⟩:=h2 0 _ (List.getElem?_eq_getElem hpos)
  obtain⟨v',w',hr,ho',hg,_⟩:=run_append_own (w:=w) base t ty e i0 z sz by_ ht hi0 hz0 hz1 hz2 hti.cells hti.pos v n xs h1 ⟨g,o,none⟩ m c news hl (λj u hj=>by
   obtain⟨g',o',e',hc⟩:=h2 j u hj
   cases e'
   rw[Addr.add_lit]
   exact hc) ho (by unfold maxLen;omega) hb hbase
  obtain⟨p',c',rfl,_⟩:=own_slice ho'
  exact⟨p',c',w',hr,ho',hg⟩
theorem wpList_appG {ops:Array Oper} {rest:List Oper} {o:Oper} {a:Act} {Q:Exit→Act→World→Prop} {t:TypeId} (hgd:o.guard=none) (s x:Operand) (ho:o.op=.call {callee:=.builtin .append,args:= #[s,x],argTypes:= #[t,t]}) (ht:Tryz.prog.underlying t=some (.slice e)) (hti:TI e z sz by_) (base:Nat) (v:Value) (n m:Nat) (xs news:List Value) (p:Option Addr) (c:Nat) (hs:a.eval s=v) (hx:a.eval x=.slice p m c) (h:Hid (w.ownsRow base e sz v n xs∧Cs w p news∧news.length=m*sz∧(∀u∈news,u.oneCell'=true)∧(n+m)*by_≤140737488355328∧n+m≤140737488355328∧base≤w.heap.size)) (hK:∀p' c' w',Hid (w'.ownsRow base e sz (.slice p' (n+m) c') (n+m) (xs++news)∧w.grownBy w' v.ownBlock)→wpList Tryz.prog ops Q rest (a.put o.dst (.slice p' (n+m) c')) w'):wpList Tryz.prog ops Q (o::rest) a w:=by
 obtain⟨h1,h2,h3,h4,h5,h6,h7⟩:=h.out
 obtain⟨p',c',w',hr,h8,h9⟩:=app_run ht hti o.type w base v n m xs news p c h1 h2 h3 h4 h5 h6 h7
 refine wpList_plain hgd λK hK'=> ?_
 unfold Oper.wp execOp
 simp only[ho,resolve,invoke,builtin,Sem.run_bind,Sem.run_pure,Result.andThen_ok,List.map_toArray,List.map_cons,List.map_nil,hs,hx,hr]
 exact hK' _ _ (hK p' c' w' ⟨h8,h9⟩)
theorem grown_low {w0:World} (hb:Below w0.heap.size w0 w) (ho:w.ownsRow base e sz v n xs) (hg:w.grownBy w' v.ownBlock) (h:w0.heap.size≤base):Below w0.heap.size w0 w':=by
 refine⟨hg.os.trans hb.os,hg.tape.trans hb.tape,hg.output.trans hb.output,Nat.le_trans hb.size hg.size,λi hi=> ?_⟩
 refine(hg.block i (Nat.lt_of_lt_of_le hi hb.size) ?_).trans (hb.block i hi)
 rcases ho.2 with⟨rfl,_⟩|⟨g,cap,cur,rfl,h1,_⟩
 ·intro e;cases e
 ·intro e
  injection e with e
  have:i=g:=e
  omega
def Left (u0 u:Nat) (ds:List UInt8):Prop:=(ds=[]∧u=u0)∨(ds≠[]∧((u=0∧ds=decDigits u0)∨(u≠0∧decDigits u++ds=decDigits u0)))
theorem Left.next {u:Nat} (h:Left u0 u ds) (hu:u≠0∨ds=[]):Left u0 (u/10) (UInt8.ofNat (48+u%10)::ds):=by
 have hd:decDigits u++ds=decDigits u0:=by
  rcases h with⟨rfl,rfl⟩|⟨hn,⟨h1,h2⟩|⟨h1,h2⟩⟩
  ·simp
  ·rcases hu with hu|hu
   ·exact absurd h1 hu
   ·exact absurd hu hn
  ·exact h2
 refine .inr ⟨by simp, ?_⟩
 by_cases h10:u<10
 ·rw[decDigits_one h10]at hd
  refine .inl ⟨by omega, ?_⟩
  rw[Nat.mod_eq_of_lt h10,← hd]
  rfl
 ·rw[cFz u h10]at hd
  refine .inr ⟨by omega, ?_⟩
  rw[← hd]
  simp
theorem Left.done (h:Left u0 0 ds) (hn:ds≠[]):ds=decDigits u0:=by
 rcases h with⟨h1,_⟩|⟨_,⟨_,h2⟩|⟨h1,_⟩⟩
 ·exact absurd h1 hn
 ·exact h2
 ·exact absurd rfl h1
def u8c (c:UInt8):Value:=.int .u8 (c.toNat:Int)
theorem mOz (l:List UInt8):∀u∈l.map u8c,u.oneCell'=true:=λu hu=>by
 obtain⟨c,_,rfl⟩:=List.mem_map.1 hu
 rfl
def msD (zz bb:Value):Nat:=2*(RowKit.intOf zz).natAbs+(match bb with|.slice _ 0 _=>1|_=>0)
theorem Left.len {u:Nat} (h:Left u0 u ds):ds.length≤(decDigits u0).length:=by
 rcases h with⟨rfl,_⟩|⟨_,⟨_,rfl⟩|⟨_,h⟩⟩
 ·simp
 ·exact Nat.le_refl _
 ·rw[← h];simp
theorem hSz (q:Int) (hq:InI q):∃(r d k q2:Int) (c:UInt8),q.tmod 10=r∧(r<0→wrap64 (-r)=d)∧(¬r<0→r=d)∧wrap64 (48+d)=k∧k%256=(c.toNat:Int)∧q.tdiv 10=q2∧wrap64 q2=q2∧c=UInt8.ofNat (48+q.natAbs%10)∧q2.natAbs=q.natAbs/10∧InI q2∧(q2≠0→(q2<0↔q<0)):=by
 obtain⟨h0,h1⟩:=hq
 have hc:=cMz (q.natAbs%10) (by omega)
 have hm:(0≤q∧q.tmod 10=((q.natAbs%10:Nat):Int)∧q.tdiv 10=((q.natAbs/10:Nat):Int))∨(q<0∧q.tmod 10= -((q.natAbs%10:Nat):Int)∧q.tdiv 10= -((q.natAbs/10:Nat):Int)):=by
  by_cases hq:0≤q
  ·refine .inl ⟨hq, ?_, ?_⟩
   ·rw[Int.tmod_eq_emod_of_nonneg hq];omega
   ·rw[Int.tdiv_eq_ediv_of_nonneg hq];omega
  ·refine .inr ⟨by omega, ?_, ?_⟩
   ·obtain⟨u,rfl⟩:∃u,q= -u:=⟨-q,by omega⟩
    rw[Int.neg_tmod,Int.tmod_eq_emod_of_nonneg (by omega)];omega
   ·obtain⟨u,rfl⟩:∃u,q= -u:=⟨-q,by omega⟩
    rw[Int.neg_tdiv,Int.tdiv_eq_ediv_of_nonneg (by omega)];omega
 generalize hr:q.tmod 10=r at hm
 generalize hq2:q.tdiv 10=q2 at hm
 refine⟨r,(q.natAbs%10:Nat),48+(q.natAbs%10:Nat),q2,UInt8.ofNat (48+q.natAbs%10),rfl,λh=> ?_,λh=> ?_, ?_, ?_,rfl, ?_,rfl, ?_, ?_, ?_⟩
 ·have: -r=((q.natAbs%10:Nat):Int):=by omega
  rw[this]
  generalize hk:((q.natAbs%10:Nat):Int)=k
  unfold wrap64
  omega
 ·omega
 ·generalize hk:((q.natAbs%10:Nat):Int)=k
  unfold wrap64
  omega
 ·rw[hc]
  omega
 ·have: -9223372036854775808≤q2∧q2≤9223372036854775807:=by omega
  clear hm hr hq2
  unfold wrap64
  omega
 ·omega
 ·unfold InI
  omega
 ·omega
theorem hDz (z:Int) (hz:InI z) (w:World):Calls Tryz.prog 166 #[.int .i64 z] w λe w'=>e=.returned (.string (bas (itoa z)))∧Below w.heap.size w w':=by
 obtain⟨u0,hu0⟩:∃u0,u0=z.natAbs:=⟨_,rfl⟩
 have HZ:Hid (∀ds,ds=decDigits u0→itoa z=if z<0 then 45::ds else ds):=λds hd=>by
  rw[hd,hu0];unfold itoa
  split
  ·rfl
  ·congr 1;omega
 have H0:Hid (Left u0 z.natAbs []):=.inl ⟨rfl,hu0.symm⟩
 have HN:Hid ((decDigits u0).length≤20):=jmz 19 (by have:=hz.1;have:=hz.2;rw[hu0];omega)
 clear hu0
 go_enter Tryz.func166,Tryz.ntmps166
 go_wp2_with fail
 go_loopw [0,3] (λzz bb wr=>∃(q:Int) (p:Option Addr) (c:Nat) (ds:List UInt8),zz=.int .i64 q∧bb=.slice p ds.length c∧Hid (Left u0 q.natAbs ds∧InI q∧(q≠0→(q<0↔z<0))∧wr.ownsRow w.heap.size 5 1 bb ds.length (ds.map u8c)∧Below w.heap.size w wr)) (λzz bb _=>msD zz bb)
 case atStart=>
  exact⟨z,none,0,[],rfl,rfl,H0.out,hz,λ_=>Iff.rfl,⟨rfl,.inl ⟨rfl,rfl⟩⟩,Below.refl _ _⟩
 case round=>
  obtain⟨q,p,c,ds,rfl,rfl,HI⟩:=hrel
  by_cases hgo:q=0∧ds≠[]
  ·obtain⟨hq0,hds⟩:=hgo
   have hqf:(q != 0)=false:=by simpa using hq0
   have hlp:0<ds.length:=List.length_pos_iff.2 hds
   have hl0:((ds.length:Int)==0)=false:=by rw[beq_eq_false_iff_ne];omega
   have HI':=HI.out.1
   rw[hq0]at HI'
   have HE:=Lib.hid (HZ.out ds (HI'.done hds))
   have hlen:ds.length≤20:=Nat.le_trans HI'.len HN.out
   have HB:=Lib.hid HI.out.2.2.2.2
   have hcv:(convert 29 9 (.slice p ds.length c)).run Tryz.prog wr=.ok (.string (bas ds)) wr:=by
    obtain⟨p',c',e,hcs⟩:=Cs.of_own HI.out.2.2.2.1
    injection e with ea eb ec
    subst ea
    obtain⟨g,o,rfl,_⟩:=hcs 0 _ (List.getElem?_eq_getElem (by simpa using hlp))
    exact run_convert_bytes_back (P:=Tryz.prog) wr 29 9 5 ⟨g,o,none⟩ c ds Tryz.underlying29 Tryz.underlying5 Tryz.underlying9 (λj hj=>by
     obtain⟨g',o',e',hc⟩:=hcs j (u8c ds[j]) (by simp[List.getElem?_eq_getElem hj])
     cases e'
     rw[Addr.add_lit]
     exact hc)
   obtain⟨x,hx⟩:∃x,x=(45:UInt8)::ds:=⟨_,rfl⟩
   have acat:∀W,(Op.stringOp .add ⟨#[45]⟩ (bas ds)).run Tryz.prog W=.ok (.string (bas x)) W:=λW=>by rw[hx];exact bPz [45] ds W (by simp;omega)
   rw[← hx]at HE
   clear HI' hq0 hds hlp hlen hx HI
   generalize ds.length=L at hcv hl0
   by_cases hz0:z<0
   ·go_wp2_with fail
    go_ret
    rw[HE.out,if_pos hz0]
    exact⟨rfl,HB.out⟩
   ·go_wp2_with fail
    go_ret
    rw[HE.out,if_neg (by omega)]
    exact⟨rfl,HB.out⟩
  ·obtain⟨r,d,k,q2,c0,e1,e2,e3,e4,e5,e6,e7,e8,e9,e10,e11⟩:=hSz q HI.out.2.1
   have HD:=Lib.hid (And.intro e8 (And.intro e9 (And.intro e10 e11)))
   clear e8 e9 e10 e11
   have HA:Hid ((wr.alloc (.cells #[.int .u8 (c0.toNat:Int)] 5)).ownsRow w.heap.size 5 1 (.slice (some ⟨wr.heap.size,0,none⟩) 1 1) 1 [u8c c0]∧Cs (wr.alloc (.cells #[.int .u8 (c0.toNat:Int)] 5)) p (ds.map u8c)∧(ds.map u8c).length=ds.length*1∧(∀u∈ds.map u8c,u.oneCell'=true)∧(1+ds.length)*1≤140737488355328∧1+ds.length≤140737488355328∧w.heap.size≤(wr.alloc (.cells #[.int .u8 (c0.toNat:Int)] 5)).heap.size):=by
    obtain⟨i1,i2,i3,i4,i5⟩:=HI.out
    have hl:=i1.len
    have hn:=HN.out
    obtain⟨p',c',e,hcs⟩:=Cs.of_own i4
    injection e with ea eb ec
    subst ea
    refine⟨⟨rfl,.inr ⟨wr.heap.size,1,_,rfl,i5.size,heap_alloc_new wr _,Nat.le_refl _,by decide,rfl,rfl⟩⟩,hcs.below (a3z wr _).out,by simp,mOz ds,by omega,by omega, ?_⟩
    have:=i5.size
    simp
    omega
   have HX:Hid (∀p' c' w',(w'.ownsRow w.heap.size 5 1 (.slice p' (1+ds.length) c') (1+ds.length) ([u8c c0]++ds.map u8c)∧(wr.alloc (.cells #[.int .u8 (c0.toNat:Int)] 5)).grownBy w' (some wr.heap.size))→∃ds',Value.slice p' (1+ds.length) c'=.slice p' ds'.length c'∧(Left u0 q2.natAbs ds'∧InI q2∧(q2≠0→(q2<0↔z<0))∧w'.ownsRow w.heap.size 5 1 (.slice p' ds'.length c') ds'.length (ds'.map u8c)∧Below w.heap.size w w')):=λp' c' w' h=>by
    obtain⟨i1,i2,i3,i4,i5⟩:=HI.out
    obtain⟨d1,d2,d3,d4⟩:=HD.out
    have hle:(c0::ds).length=1+ds.length:=by simp;omega
    refine⟨c0::ds,by rw[hle], ?_,d3, ?_,by rw[hle];exact h.1, ?_⟩
    ·rw[d2,d1]
     refine i1.next ?_
     by_cases hq0:q=0
     ·refine .inr ?_
      by_cases hd:ds=[]
      ·exact hd
      ·exact absurd ⟨hq0,hd⟩ hgo
     ·refine .inl ?_
      omega
    ·intro hne
     rw[d4 hne]
     refine i3 ?_
     intro h0
     subst h0
     exact hne (by have:q2.natAbs=0:=d2;omega)
    ·exact grown_low (base:=w.heap.size) (afz i5 (a3z wr _).out) HA.out.1 h.2 (Nat.le_refl _)
   have hms:Hid (∀p' c',msD (.int .i64 q2) (.slice p' (1+ds.length) c')<msD (.int .i64 q) (.slice p ds.length c)):=λp' c'=>by
    obtain⟨d1,d2,d3,d4⟩:=HD.out
    unfold msD
    simp only[RowKit.intOf]
    have hne:(match Value.slice p' (1+ds.length) c' with|.slice _ 0 _=>1|_=>0)=0:=by
     rw[Nat.add_comm];rfl
    rw[hne]
    by_cases hq0:q=0
    ·have hd:ds=[]:=by
      by_cases hd:ds=[]
      ·exact hd
      ·exact absurd ⟨hq0,hd⟩ hgo
     subst hd hq0
     simp at d2⊢
     omega
    ·omega
   have hcond:Hid (q=0→ds.length=0):=λh=>by
    by_cases hd:ds=[]
    ·rw[hd];rfl
    ·exact absurd ⟨h,hd⟩ hgo
   have hb1:Value.ownBlock (.slice (some ⟨wr.heap.size,0,none⟩) 1 1)=some wr.heap.size:=rfl
   clear hgo HD
   by_cases hr0:r<0
   ·have e2':=e2 hr0
    have hq0:¬q=0:=λh=>by rw[h]at e1;rw[← e1]at hr0;exact absurd hr0 (by decide)
    have hqb:(q != 0)=true:=by simpa using hq0
    clear e2 e3 hcond
    go_wp2_with (at_builtin;refine wpList_appG rfl _ _ rfl Tryz.underlying29 gwz w.heap.size (.slice (some ⟨wr.heap.size,0,none⟩) 1 1) 1 ds.length [u8c c0] (ds.map u8c) p c rfl rfl HA ?_;intro p' c' w' H')
    obtain⟨ds',hs',hL'⟩:=HX.out p' c' w' H'.out
    rw[e7]
    exact⟨⟨q2,p',c',ds',rfl,hs',by rw[hs'];exact hL'⟩,hms.out p' c'⟩
   ·have e3':=e3 hr0
    subst e3'
    clear e2 e3
    by_cases hq0:q=0
    ·have hqf:(q != 0)=false:=by simpa using hq0
     have hl0:((ds.length:Int)==0)=true:=by rw[hcond.out hq0];rfl
     clear hcond hq0
     go_wp2_with (at_builtin;refine wpList_appG rfl _ _ rfl Tryz.underlying29 gwz w.heap.size (.slice (some ⟨wr.heap.size,0,none⟩) 1 1) 1 ds.length [u8c c0] (ds.map u8c) p c rfl rfl HA ?_;intro p' c' w' H')
     obtain⟨ds',hs',hL'⟩:=HX.out p' c' w' H'.out
     rw[e7]
     exact⟨⟨q2,p',c',ds',rfl,hs',by rw[hs'];exact hL'⟩,hms.out p' c'⟩
    ·have hqb:(q != 0)=true:=by simpa using hq0
     clear hcond
     go_wp2_with (at_builtin;refine wpList_appG rfl _ _ rfl Tryz.underlying29 gwz w.heap.size (.slice (some ⟨wr.heap.size,0,none⟩) 1 1) 1 ds.length [u8c c0] (ds.map u8c) p c rfl rfl HA ?_;intro p' c' w' H')
     obtain⟨ds',hs',hL'⟩:=HX.out p' c' w' H'.out
     rw[e7]
     exact⟨⟨q2,p',c',ds',rfl,hs',by rw[hs'];exact hL'⟩,hms.out p' c'⟩
theorem gPz (t n:Int) (ht:InI t) (hn:InI n) (w:World):Calls Tryz.prog 123 #[idv t n] w λe w'=>e=.returned (.string (bas (bbz t n)))∧Below w.heap.size w w':=by
 have cd:=λ(z:Int) (hz:InI z) W=>hDz z hz W
 have lx:=Lib.itoa_length_le t ht.1 ht.2
 have ly:=Lib.itoa_length_le n hn.1 hn.2
 have HE:Hid (bbz t n=1::(itoa t++46::itoa n)):=rfl
 obtain⟨x,hx⟩:∃x,itoa t=x:=⟨_,rfl⟩
 obtain⟨y,hy⟩:∃y,itoa n=y:=⟨_,rfl⟩
 rw[hx]at HE lx
 rw[hy]at HE ly
 obtain⟨x1,hx1⟩:∃x1,x1=(1:UInt8)::x:=⟨_,rfl⟩
 obtain⟨x2,hx2⟩:∃x2,x2=x1++[(46:UInt8)]:=⟨_,rfl⟩
 obtain⟨x3,hx3⟩:∃x3,x3=x2++y:=⟨_,rfl⟩
 have a1:∀W,(Op.stringOp .add ⟨#[1]⟩ (bas x)).run Tryz.prog W=.ok (.string (bas x1)) W:=λW=>by rw[hx1];exact bPz [1] x W (by simp;omega)
 have a2:∀W,(Op.stringOp .add (bas x1) ⟨#[46]⟩).run Tryz.prog W=.ok (.string (bas x2)) W:=λW=>by rw[hx2];exact bPz x1 [46] W (by rw[hx1];simp;omega)
 have a3:∀W,(Op.stringOp .add (bas x2) (bas y)).run Tryz.prog W=.ok (.string (bas x3)) W:=λW=>by rw[hx3];exact bPz x2 y W (by rw[hx2,hx1];simp;omega)
 have HX:Hid (bbz t n=x3):=by show _=_;rw[hx3,hx2,hx1,HE.out];simp
 clear hx1 hx2 hx3 HE lx ly
 go_enter Tryz.func123,Tryz.ntmps123
 go_wp2
 obtain⟨w2,hw2⟩:∃w2,w2=w.alloc (.cells #[.int .i64 t,.int .i64 n] 28):=⟨_,rfl⟩
 rw[← hw2]
 have hs2:w2.heap.size=w.heap.size+1:=by rw[hw2];simp
 have S0:w2.cell? ⟨w.heap.size,0,none⟩=some (.int .i64 t)∧w2.cell? ⟨w.heap.size,1,none⟩=some (.int .i64 n):=by
  rw[hw2]
  simp[go_sem]
 have HB:Hid (Below w.heap.size w w2):=by rw[hw2];exact a3z w _
 have HS:∀W W',(W.cell? ⟨w.heap.size,0,none⟩=some (.int .i64 t)∧W.cell? ⟨w.heap.size,1,none⟩=some (.int .i64 n)∧Hid (Below w2.heap.size w2 W))→Hid (Below W.heap.size W W')→W'.cell? ⟨w.heap.size,0,none⟩=some (.int .i64 t)∧W'.cell? ⟨w.heap.size,1,none⟩=some (.int .i64 n)∧Hid (Below w2.heap.size w2 W'):=λW W' h1 h2=>
  have hb:=afz h1.2.2.out h2.out
  ⟨cell_kept S0.1 hb,cell_kept S0.2 hb,hb⟩
 have HF:∀W,(W.cell? ⟨w.heap.size,0,none⟩=some (.int .i64 t)∧W.cell? ⟨w.heap.size,1,none⟩=some (.int .i64 n)∧Hid (Below w2.heap.size w2 W))→Below w.heap.size w W:=λW hW=>afz HB.out hW.2.2.out
 have S1:w2.drew.cell? ⟨w.heap.size,0,none⟩=some (.int .i64 t)∧w2.drew.cell? ⟨w.heap.size,1,none⟩=some (.int .i64 n)∧Hid (Below w2.heap.size w2 w2.drew):=⟨S0.1,S0.2,below_drewN w2 1⟩
 have S2:w2.cell? ⟨w.heap.size,0,none⟩=some (.int .i64 t)∧w2.cell? ⟨w.heap.size,1,none⟩=some (.int .i64 n)∧Hid (Below w2.heap.size w2 w2):=⟨S0.1,S0.2,Below.refl _ _⟩
 clear hw2 hs2
 go_region_held3 (λW=>W.cell? ⟨w.heap.size,0,none⟩=some (.int .i64 t)∧W.cell? ⟨w.heap.size,1,none⟩=some (.int .i64 n)∧Hid (Below w2.heap.size w2 W))
  (first|exact S1|exact S2|assumption|exact HS _ _ (by assumption) (by assumption))
  (first|(go_at_call 166;refine acz (cd _ (by assumption) _) ?_;intro w3 HB3))
 go_wp2
 go_ret
 rw[HX.out]
 exact⟨rfl,HF _ (by assumption)⟩
end Go.Proofs.YthhakekbffembaaGreatDoor.Ck.Sh

namespace Go.Proofs.YthhakekbffembaaGreatDoor.Ck.Sh
open Go.RowKit Go.Lib
attribute [local go_sem] Oper.semAt_some
theorem h7z {l:List UInt8} (h:(1:UInt8)∉l):SplitOf l none:=λnm t n _ _ e=>h (by rw[e];unfold bbz;simp)
end Go.Proofs.YthhakekbffembaaGreatDoor.Ck.Sh

namespace Go.Proofs.YthhakekbffembaaGreatDoor.Ck.Sh
open Go.RowKit Go.Lib Go.Maps
attribute [local go_sem] Oper.semAt_some
variable {E:List (List UInt8×Nat)} {w:World} {mb i:Nat} {a b:Int×Int} {ids:List (Int×Int)} {names:List (List UInt8)}
def atS (E:List (List UInt8×Nat)) (q:List UInt8):Option Nat:=(E.find? λx=>decide (x.1=q)).map (·.2)
def enS (x:List UInt8×Nat):Value×Value:=(.string (bas x.1),.int .i64 (x.2:Nat))
def MapS (w:World) (mb:Nat) (E:List (List UInt8×Nat)):Prop:=∃es clock,w.heap[mb]? =some (.map es clock)∧es.toList.map (λe=>(e.key,e.val))=E.map enS
theorem mEz (a b:List UInt8):(bas a==bas b)=decide (a=b):=by
 by_cases h:a=b
 ·subst h
  rw[decide_eq_true rfl]
  exact(MapKept.bytes_beq _ _).2 rfl
 ·rw[decide_eq_false h]
  cases e:bas a==bas b with
  |false=>rfl
  |true=>exact absurd (jgz ((MapKept.bytes_beq _ _).1 e)) h
theorem hdz (q:List UInt8):∀(l:List MapEntry) (E:List (List UInt8×Nat)) (i:Nat),l.map (λe=>(e.key,e.val))=E.map enS→Instr.findNow .string (.string (bas q)) l i=some ((E.findIdx? λx=>decide (x.1=q)).bind λk=>(E[k]?).map λx=>(i+k,Value.int .i64 (x.2:Nat)))
 |[],[],i,_=>by simp[Instr.findNow]
 |[],_::_,i,h=>by simp at h
 |_::_,[],i,h=>by simp at h
 |e::l,x::E,i,h=>by
  simp only[List.map_cons,List.cons.injEq]at h
  obtain⟨h1,h2⟩:=h
  obtain⟨hk,hv⟩:=Prod.mk.inj h1
  have ih:=hdz q l E (i+1) h2
  unfold Instr.findNow
  rw[hk,hv]
  simp only[Instr.sameNow,mEz]
  by_cases e1:x.1=q
  ·have:decide (q=x.1)=true:=decide_eq_true e1.symm
   rw[this]
   simp[List.findIdx?_cons,e1]
  ·have:decide (q=x.1)=false:=decide_eq_false (λe=>e1 e.symm)
   rw[this]
   simp only[ih,List.findIdx?_cons,e1,decide_false]
   cases E.findIdx? λx=>decide (x.1=q)with
   |none=>simp
   |some k=>simp only[Option.bind_some,Option.map_some,List.getElem?_cons_succ,show i+1+k=i+(k+1) by omega,if_false,Bool.false_eq_true]
def fdS (E:List (List UInt8×Nat)) (q:List UInt8):Option (Nat×Value):=(E.findIdx? λx=>decide (x.1=q)).bind λk=>(E[k]?).map λx=>(k,Value.int .i64 (x.2:Nat))
theorem eez (q:List UInt8) (w:World) (l:List MapEntry) (E:List (List UInt8×Nat)) (h:l.map (λe=>(e.key,e.val))=E.map enS):(Instr.findKey 9 (.string (bas q)) l).run Tryz.prog w=.ok (fdS E q) w:=by
 have hA:=hdz q l E 0 h
 simp only[Nat.zero_add]at hA
 unfold Instr.findKey
 simp only[Sem.run_bind,run_underlying Tryz.underlying9,Result.andThen_ok,hA]
 rfl
theorem eMz {q:List UInt8} (h:atS E q=none):fdS E q=none:=by
 unfold atS at h
 unfold fdS
 rw[Option.map_eq_none_iff,List.find?_eq_none]at h
 rw[List.findIdx?_eq_none_iff.2 (λx hx=>by simpa using h x hx)]
 rfl
theorem fnz {q:List UInt8} {b:Nat} (h:atS E q=some b):∃k,fdS E q=some (k,.int .i64 (b:Nat))∧E[k]? =some (q,b)∧∀j,j<k→∀x,E[j]? =some x→x.1≠q:=by
 unfold atS at h
 obtain⟨x,hx,rfl⟩:=Option.map_eq_some_iff.1 h
 rw[List.find?_eq_some_iff_getElem]at hx
 obtain⟨h1,i,hi,he,hlt⟩:=hx
 have hq:x.1=q:=by simpa using h1
 refine⟨i, ?_, ?_,λj hj y hy=> ?_⟩
 ·unfold fdS
  have:E.findIdx? (λx=>decide (x.1=q))=some i:=by
   rw[List.findIdx?_eq_some_iff_getElem]
   exact⟨hi,by rw[he];exact h1,λj hj=>by have:=hlt j hj;simpa using this⟩
  rw[this]
  simp[List.getElem?_eq_getElem hi,he]
 ·rw[List.getElem?_eq_getElem hi,he,← hq]
 ·have:=hlt j hj
  obtain⟨hjl,e⟩:=List.getElem?_eq_some_iff.1 hy
  rw[e]at this
  simpa using this
theorem odz (e:Bool) (q:List UInt8) (w:World):(Instr.checkKey e 10000 9 (.string (bas q))).run Tryz.prog w=.ok () w:=by
 unfold Instr.checkKey
 simp only[Sem.run_bind,run_underlying Tryz.underlying9,Result.andThen_ok]
 rfl
theorem look_ok (h:MapS w mb E) (q:List UInt8):(Instr.lookup 174 (.map (some mb)) (.string (bas q)) true).run Tryz.prog w=.ok (.tuple #[.int .i64 ((atS E q).getD 0:Nat),.bool (atS E q).isSome]) w:=by
 obtain⟨es,clock,hb,he⟩:=h
 have hk:=eez q w es.toList E he
 have hc:=λe=>odz e q w
 cases hq:atS E q with
 |none=>
  rw[eMz hq]at hk
  simp[Instr.lookup,run_underlying Tryz.underlying174,MapKept.run_getObj_map hb,hc,hk,Tryz.zeroValue3]
 |some b=>
  obtain⟨k,e,_⟩:=fnz hq
  rw[e]at hk
  simp[Instr.lookup,run_underlying Tryz.underlying174,MapKept.run_getObj_map hb,hc,hk]
theorem ihz (h:MapS w mb E) (q:List UInt8):(Instr.lookup 174 (.map (some mb)) (.string (bas q)) false).run Tryz.prog w=.ok (.int .i64 ((atS E q).getD 0:Nat)) w:=by
 obtain⟨es,clock,hb,he⟩:=h
 have hk:=eez q w es.toList E he
 have hc:=λe=>odz e q w
 cases hq:atS E q with
 |none=>
  rw[eMz hq]at hk
  simp[Instr.lookup,run_underlying Tryz.underlying174,MapKept.run_getObj_map hb,hc,hk,Tryz.zeroValue3]
 |some b=>
  obtain⟨k,e,_⟩:=fnz hq
  rw[e]at hk
  simp[Instr.lookup,run_underlying Tryz.underlying174,MapKept.run_getObj_map hb,hc,hk]
theorem bUz {b:Nat} (o:Obj) (h:b<w.heap.size):(Go.ChangeMaps.setBlock w b o).heap[b]? =some o:=by
 unfold Go.ChangeMaps.setBlock
 simp[h]
theorem biz (w:World) (b:Nat) (o:Obj):Only (· =b) w (Go.ChangeMaps.setBlock w b o):=⟨rfl,rfl,rfl,by simp[Go.ChangeMaps.setBlock],λi _ hn=>by
 unfold Go.ChangeMaps.setBlock
 simp[Array.getElem?_setIfInBounds_ne (Ne.symm hn)]⟩
theorem inz (E:List (List UInt8×Nat)) (q:List UInt8) (j:Nat) (hq:atS E q=none) (x:List UInt8):atS (E++[(q,j)]) x=if x=q then some j else atS E x:=by
 unfold atS at hq⊢
 rw[List.find?_append]
 by_cases h:x=q
 ·subst h
  rw[Option.map_eq_none_iff]at hq
  rw[hq]
  simp
 ·rw[if_neg h]
  have:¬q=x:=λe=>h e.symm
  simp[this]
theorem mzz (E:List (List UInt8×Nat)) (q:List UInt8) (b j k:Nat) (hk:E[k]? =some (q,b)) (hlt:∀i,i<k→∀x,E[i]? =some x→x.1≠q) (x:List UInt8):atS (E.set k (q,j)) x=if x=q then some j else atS E x:=by
 induction E generalizing k with
 |nil=>simp at hk
 |cons y E ih=>
  cases k with
  |zero=>
   simp only[List.getElem?_cons_zero,Option.some.injEq]at hk
   subst hk
   simp only[List.set_cons_zero,atS,List.find?_cons]
   by_cases h:x=q
   ·subst h;simp
   ·have:¬q=x:=λe=>h e.symm
    simp[this,h]
  |succ k=>
   have hy:y.1≠q:=hlt 0 (by omega) y rfl
   have ih':=ih k (by simpa using hk) (λi hi z hz=>hlt (i+1) (by omega) z (by simpa using hz))
   simp only[List.set_cons_succ,atS,List.find?_cons]
   by_cases h:y.1=x
   ·have:¬x=q:=λe=>hy (h.trans e)
    simp[h,this]
   ·simp only[h,decide_false]
    exact ih'
theorem oAz (h:MapS w mb E) (q:List UInt8) (j:Nat):
  ∃W E',(Instr.mapUpdate 174 (.map (some mb)) (.string (bas q)) (.int .i64 (j:Nat))).run Tryz.prog w=.ok () W∧MapS W mb E'∧(∀x,atS E' x=if x=q then some j else atS E x)∧Only (· =mb) w W∧W.heap.size=w.heap.size:=by
 obtain⟨es,clock,hb,he⟩:=h
 have hk:=eez q w es.toList E he
 have hc:=λe=>odz e q w
 cases hq:atS E q with
 |none=>
  rw[eMz hq]at hk
  refine⟨Go.ChangeMaps.setBlock w mb (.map (es.push ⟨.string (bas q),.int .i64 (j:Nat),clock⟩) (clock+1)),E++[(q,j)], ?_,⟨_,_,bUz _ (block_lt hb), ?_⟩,inz E q j hq,biz _ _ _,by simp[Go.ChangeMaps.setBlock]⟩
  ·simp[Instr.mapUpdate,run_underlying Tryz.underlying174,MapKept.run_getObj_map hb,hc,hk,MapKept.run_setObj_map _ hb,Result.andThen,Go.ChangeMaps.setBlock]
  ·rw[Array.toList_push,List.map_append,List.map_append,he]
   rfl
 |some b=>
  obtain⟨k,e,hk1,hk2⟩:=fnz hq
  rw[e]at hk
  have hkl:k<E.length:=(List.getElem?_eq_some_iff.1 hk1).1
  have hel:es.toList.length=E.length:=by
   have:=congrArg List.length he
   simpa using this
  have hkk:(es[k]?).map (·.key)=some (.string (bas q)):=by
   have:=congrArg (·[k]?) he
   simp only[List.getElem?_map,hk1]at this
   rw[← Array.getElem?_toList]
   cases h1:es.toList[k]? with
   |none=>rw[h1]at this;simp at this
   |some z=>
    rw[h1]at this
    simp only[Option.map_some,Option.some.injEq,enS]at this
    simp[(Prod.mk.inj this).1]
  have hst:∀W,(Instr.keyThatStays (.string (bas q)) (.string (bas q))).run Tryz.prog W=.ok (.string (bas q)) W:=λW=>by
   exact MapKept.run_keyThatStays (d:=.string) trivial
  refine⟨Go.ChangeMaps.setBlock w mb (.map (es.modify k λe=>{e with key:=.string (bas q),val:=.int .i64 (j:Nat)}) clock),E.set k (q,j), ?_,⟨_,_,bUz _ (block_lt hb), ?_⟩,mzz E q b j k hk1 hk2,biz _ _ _,by simp[Go.ChangeMaps.setBlock]⟩
  ·simp[Instr.mapUpdate,run_underlying Tryz.underlying174,MapKept.run_getObj_map hb,hc,hk,hkk,hst,MapKept.run_setObj_map _ hb,Result.andThen,Go.ChangeMaps.setBlock]
  ·apply List.ext_getElem?
   intro i
   rw[Array.toList_modify,List.getElem?_map,List.getElem?_map,List.getElem?_modify,List.getElem?_set]
   have hi:=congrArg (·[i]?) he
   simp only[List.getElem?_map]at hi
   by_cases hik:k=i
   ·subst hik
    have hlt':k<es.toList.length:=by omega
    simp[hkl,List.getElem?_eq_getElem hlt',enS]
   ·simp only[hik,if_false]
    simpa using hi
theorem MapS.kept {w':World} {S:Nat→Prop} (h:MapS w mb E) (ho:Only S w w') (hn:¬S mb):MapS w' mb E:=by
 obtain⟨es,clock,hb,he⟩:=h
 exact⟨es,clock,(ho.block mb (block_lt hb) hn).trans hb,he⟩
theorem MapS.below {w':World} (h:MapS w mb E) (hb:Below w.heap.size w w'):MapS w' mb E:=h.kept (Below.only hb (λ_=>False)) (λf=>f)
theorem MapS.lt (h:MapS w mb E):mb<w.heap.size:=by
 obtain⟨es,clock,hb,he⟩:=h
 exact block_lt hb
def idA (ids:List (Int×Int)) (i:Nat):Int×Int:=ids.getD i (0,0)
def nmA (names:List (List UInt8)) (i:Nat):List UInt8:=names.getD i []
def lsA (a b:Int×Int):Bool:=lessB a.1 a.2 b.1 b.2
def evz (ids:List (Int×Int)) (names:List (List UInt8)) (k i:Nat):Bool:=decide (nmA names k=nmA names i)&&(lsA (idA ids k) (idA ids i)||(decide (k<i)&&decide (idA ids k=idA ids i)))
def coz (ids:List (Int×Int)) (names:List (List UInt8)) (n i:Nat):Bool:=(List.range n).all λk=> !evz ids names k i
def shownAt (ids:List (Int×Int)) (names:List (List UInt8)) (n i:Nat):List UInt8:=if coz ids names n i=true then nmA names i else nmA names i++bbz (idA ids i).1 (idA ids i).2
def shownL (ids:List (Int×Int)) (names:List (List UInt8)) (n:Nat):List (List UInt8):=(List.range n).map (shownAt ids names n)
theorem lsA_iff:lsA a b=true↔a.1<b.1∨(a.1=b.1∧a.2<b.2):=lessB_true
theorem kuz {c:Int×Int} (h:lsA a b=true) (h':lsA b c=true):lsA a c=true:=by
 rw[lsA_iff]at*;omega
theorem mXz (a:Int×Int):lsA a a=false:=by
 cases h:lsA a a with
 |false=>rfl
 |true=>rw[lsA_iff]at h;omega
theorem mfz (h:lsA a b=false) (h':lsA b a=false):a=b:=by
 have h1:¬(a.1<b.1∨(a.1=b.1∧a.2<b.2)):=λe=>by rw[lsA_iff.2 e]at h;cases h
 have h2:¬(b.1<a.1∨(b.1=a.1∧b.2<a.2)):=λe=>by rw[lsA_iff.2 e]at h';cases h'
 exact Prod.ext (by omega) (by omega)
theorem bef_iff {k:Nat}:evz ids names k i=true↔nmA names k=nmA names i∧(lsA (idA ids k) (idA ids i)=true∨(k<i∧idA ids k=idA ids i)):=by
 simp[evz]
theorem kept_iff {n:Nat}:coz ids names n i=true↔∀k,k<n→¬evz ids names k i=true:=by
 simp[coz]
def FirstI (ids:List (Int×Int)) (names:List (List UInt8)) (j:Nat) (E:List (List UInt8×Nat)):Prop:=
 ∀nm,match atS E nm with
  |none=>∀k,k<j→nmA names k≠nm
  |some p=>p<j∧nmA names p=nm∧∀k,k<j→¬evz ids names k p=true
theorem FirstI.nil (ids:List (Int×Int)) (names:List (List UInt8)):FirstI ids names 0 []:=λnm=>by
 show ∀k,k<0→_
 intro k hk;omega
theorem FirstI.put {j:Nat} {E':List (List UInt8×Nat)} (h:FirstI ids names j E) (hE:∀x,atS E' x=if x=nmA names j then some j else atS E x) (hl:∀p,atS E (nmA names j)=some p→lsA (idA ids j) (idA ids p)=true):FirstI ids names (j+1) E':=by
 intro nm
 rw[hE nm]
 by_cases hn:nm=nmA names j
 ·rw[if_pos hn]
  refine⟨by omega,hn.symm,λk hk hb=> ?_⟩
  obtain⟨b1,b2⟩:=bef_iff.1 hb
  by_cases hkj:k=j
  ·subst hkj
   rcases b2 with b2|b2
   ·rw[mXz]at b2;cases b2
   ·omega
  ·have hh:=h (nmA names j)
   cases hq:atS E (nmA names j)with
   |none=>
    rw[hq]at hh
    exact hh k (by omega) b1
   |some p=>
    rw[hq]at hh
    obtain⟨p1,p2,p3⟩:=hh
    have hl':=hl p hq
    refine p3 k (by omega) (bef_iff.2 ⟨b1.trans p2.symm,.inl ?_⟩)
    rcases b2 with b2|⟨_,b2⟩
    ·exact kuz b2 hl'
    ·rw[b2];exact hl'
 ·rw[if_neg hn]
  have hh:=h nm
  cases hq:atS E nm with
  |none=>
   rw[hq]at hh
   intro k hk e
   by_cases hkj:k=j
   ·subst hkj;exact hn e.symm
   ·exact hh k (by omega) e
  |some p=>
   rw[hq]at hh
   obtain⟨p1,p2,p3⟩:=hh
   refine⟨by omega,p2,λk hk hb=> ?_⟩
   by_cases hkj:k=j
   ·subst hkj
    exact hn (((bef_iff.1 hb).1.trans p2).symm)
   ·exact p3 k (by omega) hb
theorem FirstI.stay {j:Nat} (h:FirstI ids names j E) {p:Nat} (hp:atS E (nmA names j)=some p) (hl:lsA (idA ids j) (idA ids p)=false):FirstI ids names (j+1) E:=by
 intro nm
 have hh:=h nm
 cases hq:atS E nm with
 |none=>
  rw[hq]at hh
  intro k hk e
  by_cases hkj:k=j
  ·subst hkj
   rw[e,hq]at hp;cases hp
  ·exact hh k (by omega) e
 |some p'=>
  rw[hq]at hh
  obtain⟨p1,p2,p3⟩:=hh
  refine⟨by omega,p2,λk hk hb=> ?_⟩
  by_cases hkj:k=j
  ·subst hkj
   obtain⟨b1,b2⟩:=bef_iff.1 hb
   rw[b1.trans p2,hq]at hp
   injection hp with hp
   subst hp
   rcases b2 with b2|b2
   ·rw[b2]at hl;cases hl
   ·omega
  ·exact p3 k (by omega) hb
theorem FirstI.keeps {n:Nat} (h:FirstI ids names n E) (hi:i<n):decide ((atS E (nmA names i)).getD 0=i)=coz ids names n i:=by
 have hh:=h (nmA names i)
 cases hq:atS E (nmA names i)with
 |none=>
  rw[hq]at hh
  exact absurd rfl (hh i hi)
 |some p=>
  rw[hq]at hh
  obtain⟨p1,p2,p3⟩:=hh
  rw[Option.getD_some]
  by_cases hpi:p=i
  ·subst hpi
   rw[decide_eq_true rfl,kept_iff.2 p3]
  ·rw[decide_eq_false hpi]
   cases hk:coz ids names n i with
   |false=>rfl
   |true=>
    exfalso
    have k1:=kept_iff.1 hk
    have a1:lsA (idA ids p) (idA ids i)=false:=by
     cases e:lsA (idA ids p) (idA ids i)with
     |false=>rfl
     |true=>exact absurd (bef_iff.2 ⟨p2,.inl e⟩) (k1 p p1)
    have a2:lsA (idA ids i) (idA ids p)=false:=by
     cases e:lsA (idA ids i) (idA ids p)with
     |false=>rfl
     |true=>exact absurd (bef_iff.2 ⟨p2.symm,.inl e⟩) (p3 i hi)
    have e:=mfz a1 a2
    by_cases hlt:p<i
    ·exact k1 p p1 (bef_iff.2 ⟨p2,.inr ⟨hlt,e⟩⟩)
    ·exact p3 i hi (bef_iff.2 ⟨p2.symm,.inr ⟨by omega,e.symm⟩⟩)
end Go.Proofs.YthhakekbffembaaGreatDoor.Ck.Sh
