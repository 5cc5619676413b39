import Derived.Test.YthhakekbffembaaGreatDoorKQa
import Derived.Test.YthhakekbffembaaGreatDoorQKcodm
import Derived.Test.YthhakekbffembaaGreatDoorQVvecm
import Derived.Lib.Overlaps
import Derived.Lib.AppendZerosOnto
import Derived.Lib.JoinLaws
import Derived.Laws.IdiomCopy
import Derived.Laws.NewBlocks
import Derived.Deep.RegionLaw
set_option maxRecDepth 8000
set_option maxHeartbeats 4000000

namespace Go.Proofs.YthhakekbffembaaGreatDoor.Ck.Y.L
open Go.RowKit Go.Maps
variable {w:World} {v:Value} {g n cap:Nat}
structure VG where
 t:Int
 n:Int
 sq:Int
 ns:List Int
 sp:Option Addr
 sc:Nat
 bs:List (BitVec 8)
 dp:Option Addr
 dc:Nat
variable {l:List VG}
def baz (x:VG):List Value:=[.int .i64 x.t,.int .i64 x.n,.int .i64 x.sq,.slice x.sp x.ns.length x.sc,.slice x.dp x.bs.length x.dc]
abbrev vgC (x:VG):Array Value:= #[.int .i64 x.t,.int .i64 x.n,.int .i64 x.sq,.slice x.sp x.ns.length x.sc,.slice x.dp x.bs.length x.dc]
abbrev vgv (x:VG):Value:=.agg (vgC x)
def auz:List VG→List Value
 |[]=>[]
 |x::l=>baz x++auz l
theorem aOz (x:VG):(baz x).length=5:=rfl
theorem cjz (x:VG):∀v∈baz x,v.oneCell'=true:=by
 intro v hv
 simp only[baz,List.mem_cons,List.not_mem_nil,or_false]at hv
 rcases hv with rfl|rfl|rfl|rfl|rfl<;>rfl
theorem b4z:∀l:List VG,(auz l).length=l.length*5
 |[]=>rfl
 |x::l=>by rw[auz,List.length_append,aOz,b4z l,List.length_cons];omega
theorem bpz:∀l m:List VG,auz (l++m)=auz l++auz m
 |[],_=>rfl
 |x::l,m=>by rw[List.cons_append,auz,auz,bpz l m,List.append_assoc]
theorem eaz:∀(l:List VG),∀v∈auz l,v.oneCell'=true
 |[],v,h=>by simp[auz]at h
 |x::l,v,h=>by
  rw[auz,List.mem_append]at h
  rcases h with h|h
  ·exact cjz x v h
  ·exact eaz l v h
theorem gQz:∀(l:List VG) (i j:Nat) (x:VG),l[i]? =some x→j<5→(auz l)[i*5+j]? =(baz x)[j]?
 |[],_,_,_,h,_=>by simp at h
 |y::l,0,j,x,h,hj=>by
  have:y=x:=by simpa using h
  subst this
  rw[auz,Nat.zero_mul,Nat.zero_add,List.getElem?_append_left (by rw[aOz];exact hj)]
 |y::l,i+1,j,x,h,hj=>by
  rw[auz,List.getElem?_append_right (by rw[aOz];omega),aOz,show(i+1)*5+j-5=i*5+j by omega]
  exact gQz l i j x (by simpa using h) hj
theorem c8z:∀(l:List VG) (i:Nat),(auz l).take (i*5)=auz (l.take i)
 |[],i=>by simp[auz]
 |x::l,0=>by simp[auz]
 |x::l,i+1=>by
  rw[auz,List.take_succ_cons,auz,List.take_append,aOz,show(i+1)*5-5=i*5 by omega,c8z l i,List.take_of_length_le (by rw[aOz];omega)]
theorem cyz:∀(l:List VG) (i:Nat),(auz l).drop (i*5)=auz (l.drop i)
 |[],i=>by simp[auz]
 |x::l,0=>by simp
 |x::l,i+1=>by
  rw[auz,List.drop_succ_cons,List.drop_append,aOz,show(i+1)*5-5=i*5 by omega,cyz l i,List.drop_of_length_le (by rw[aOz];omega),List.nil_append]
theorem jDz (l:List VG) (i:Nat) (x:VG) (hi:i<l.length):auz (l.set i x)=(auz l).take (i*5)++baz x++(auz l).drop (i*5+5):=by
 rw[c8z,show i*5+5=(i+1)*5 by omega,cyz,List.set_eq_take_append_cons_drop,if_pos hi,bpz,auz,List.append_assoc]
def RowV (w:World) (base:Nat) (v:Value) (l:List VG):Prop:=w.ownsRow base 92 5 v l.length (auz l)
theorem RowV.nil (w:World) (base:Nat):RowV w base (.slice none 0 0) []:=⟨rfl,.inl ⟨rfl,rfl⟩⟩
theorem RowV.kept {w':World} {base:Nat} {S:Nat→Prop} (h:RowV w base v l) (ho:Only S w w') (hn:∀g,v.ownBlock=some g→¬S g):RowV w' base v l:=by
 refine⟨h.1, ?_⟩
 rcases h.2 with e|⟨g,cp,cur,hv,hbs,hblk,r⟩
 ·exact .inl e
 ·exact .inr ⟨g,cp,cur,hv,hbs,(ho.block g (block_lt hblk) (hn g (by rw[hv];rfl))).trans hblk,r⟩
theorem RowV.below {w':World} {base:Nat} (h:RowV w base v l) (hb:Below w.heap.size w w'):RowV w' base v l:=own_below h hb
theorem RowV.form {base:Nat} (h:RowV w base v l) (hl:0<l.length):∃g cap cur,v=.slice (some ⟨g,0,none⟩) l.length cap∧w.heap[g]? =some (.cells cur 92 (0,0))∧base≤g∧l.length≤cap∧cap≤maxLen∧cur.size=cap*5∧cur.toList.take (l.length*5)=auz l:=by
 rcases h.2 with⟨_,h0⟩|⟨g,cap,cur,hv,hb,hblk,h1,h2,h3,h4⟩
 ·omega
 ·exact⟨g,cap,cur,hv,hblk,hb,h1,h2,h3,h4⟩
theorem RowV.tag {base:Nat} (h:RowV w base v l) (hg:v.ownBlock=some g):∃cs,w.heap[g]? =some (.cells cs 92 (0,0))∧base≤g:=by
 rcases h.2 with⟨rfl,_⟩|⟨g',cap,cur,rfl,hb,hblk,_⟩
 ·simp[Value.ownBlock]at hg
 ·have e':g'=g:=by simpa[Value.ownBlock]using hg
  subst e'
  exact⟨cur,hblk,hb⟩
theorem RowV.cur {base:Nat} (h:RowV w base (.slice (some ⟨g,0,none⟩) n cap) l):∃cur,w.heap[g]? =some (.cells cur 92 (0,0))∧n=l.length∧base≤g∧n≤cap∧cap≤maxLen∧cur.size=cap*5∧cur.toList.take (n*5)=auz l:=by
 rcases h.2 with⟨e,_⟩|⟨g',cap',cur,e,hb,hblk,h1,h2,h3,h4⟩
 ·cases e
 ·cases e
  exact⟨cur,hblk,rfl,hb,h1,h2,h3,h4⟩
theorem RowV.cells {base:Nat} (h:RowV w base (.slice (some ⟨g,0,none⟩) n cap) l) {i:Nat} {x:VG} (hx:l[i]? =some x):
  w.cell? ⟨g,i*5,none⟩=some (.int .i64 x.t)∧w.cell? ⟨g,i*5+1,none⟩=some (.int .i64 x.n)∧w.cell? ⟨g,i*5+2,none⟩=some (.int .i64 x.sq)∧w.cell? ⟨g,i*5+3,none⟩=some (.slice x.sp x.ns.length x.sc)∧w.cell? ⟨g,i*5+4,none⟩=some (.slice x.dp x.bs.length x.dc):=by
 obtain⟨cur,hblk,hn,_,_,_,_,h4⟩:=h.cur
 have hil:=(List.getElem?_eq_some_iff.1 hx).1
 have key:∀j,j<5→w.cell? ⟨g,i*5+j,none⟩=(baz x)[j]? :=λj hj=>by
  rw[cellOf hblk,← gQz l i j x hx hj,← h4,List.getElem?_take,if_pos (by omega),Array.getElem?_toList]
 exact⟨key 0 (by omega),key 1 (by omega),key 2 (by omega),key 3 (by omega),key 4 (by omega)⟩
theorem hBz:∃i,Tryz.prog.info? 92=some i∧i.zero=some (.agg #[.int .i64 0,.int .i64 0,.int .i64 0,.slice none 0 0,.slice none 0 0])∧i.size=5∧i.bytes=72:=by
 have e:(Tryz.prog.info? 92).map (λi=>(i.zero,i.size,i.bytes))=some (some (.agg #[.int .i64 0,.int .i64 0,.int .i64 0,.slice none 0 0,.slice none 0 0]),5,72):=by kernel_rfl
 obtain⟨i,hi,he⟩:=Option.map_eq_some_iff.1 e
 injection he with h1 h2
 injection h2 with h2 h3
 exact⟨i,hi,h1,h2,h3⟩
theorem RowV.set {base:Nat} {i:Nat} {cur:Array Value} (h:RowV w base (.slice (some ⟨g,0,none⟩) n cap) l) (hi:i<l.length) (x:VG) (hc:w.heap[g]? =some (.cells cur 92 (0,0))):
  RowV (w.setRow g (cur.toList.take (i*5)++baz x++cur.toList.drop (i*5+5)).toArray) base (.slice (some ⟨g,0,none⟩) n cap) (l.set i x):=by
 obtain⟨cur',hblk,hn,hb,h1,h2,h3,h4⟩:=h.cur
 rw[hc]at hblk
 injection hblk with hblk
 injection hblk with hblk
 subst hblk
 refine⟨by rw[b4z],.inr ⟨g,cap,_,by rw[List.length_set,hn],hb,setRow_heap w g _ _ _ _ hc,by rw[List.length_set];omega,h2, ?_, ?_⟩⟩
 ·simp only[List.size_toArray,List.length_append,List.length_take,List.length_drop,Array.length_toList,aOz,h3]
  omega
 ·rw[jDz l i x hi,← h4,List.length_set,← hn]
  have hlen:cur.toList.length=cap*5:=by rw[Array.length_toList,h3]
  apply List.ext_getElem?
  intro j
  simp only[List.getElem?_take,List.getElem?_append,List.length_append,List.length_take,aOz,List.getElem?_drop,hlen]
  by_cases a1:j<n*5
  ·rw[if_pos a1]
   have e1:min (i*5) (cap*5)=i*5:=by omega
   have e2:min (i*5) (min (n*5) (cap*5))=i*5:=by omega
   rw[e1,e2]
   by_cases a2:j<i*5
   ·have a4:j<i*5+5:=by omega
    simp only[a4,a2,a1,if_true]
   ·by_cases a3:j<i*5+5
    ·simp only[a3,a2,if_true,if_false]
    ·simp only[a3,if_false]
     rw[if_pos (by omega)]
  ·rw[if_neg a1]
   have e2:min (i*5) (min (n*5) (cap*5))=i*5:=by omega
   rw[e2,if_neg (by omega),if_neg (by omega)]
theorem hbz {ops:Array Oper} {rest:List Oper} {o:Oper} {a:Act} {Q:Exit→Act→World→Prop} (hgd:o.guard=none) (x y:Operand) (ho:o.op=.store 92 x y)
  (base g n cap i:Nat) (l:List VG) (z:VG) (hx:a.eval x=.pointer (some ⟨g,i*5,none⟩)) (hy:a.eval y=vgv z) (h:Hid (RowV w base (.slice (some ⟨g,0,none⟩) n cap) l∧i<l.length)) (hK:∀w',Hid (RowV w' base (.slice (some ⟨g,0,none⟩) n cap) (l.set i z)∧Only (· =g) w w'∧w'.heap.size=w.heap.size)→wpList Tryz.prog ops Q rest (a.put o.dst undef) w'):wpList Tryz.prog ops Q (o::rest) a w:=by
 obtain⟨h1,hi⟩:=h.out
 obtain⟨cur,hblk,hn,hb,g1,g2,g3,g4⟩:=h1.cur
 obtain⟨i0,hi0,hz0,hz1,hz2⟩:=hBz
 have hr:=run_storeCells_at (P:=Tryz.prog) g (i*5) 92 (baz z) 0 cur w hblk (by rw[aOz,g3];omega) (cjz z)
 rw[Nat.add_zero,aOz]at hr
 have hs:(storeVar 92 ⟨g,i*5,none⟩ (vgv z)).run Tryz.prog w=.ok () (w.setRow g (cur.toList.take (i*5)++baz z++cur.toList.drop (i*5+5)).toArray):=by
  rw[← hr]
  simp[storeVar,sizeOf,typeInfo,hi0,Value.cells,hz1,baz]
 refine wpList_plain hgd λK hK'=> ?_
 unfold Oper.wp execOp
 simp only[ho,hx,hy,Instr.storeAt,Instr.sureAddr,Sem.run_bind,Sem.run_pure,Result.andThen_ok,hs]
 exact hK' _ _ (hK _ ⟨h1.set hi z hblk,⟨rfl,rfl,rfl,by simp,λk _ hk=>setRow_other w g k _ hk⟩,by simp⟩)
theorem hCz {ops:Array Oper} {rest:List Oper} {o:Oper} {a:Act} {Q:Exit→Act→World→Prop} (hgd:o.guard=none) (s x:Operand) (ho:o.op=.call {callee:=.builtin .append,args:= #[s,x],argTypes:= #[86,86]})
  (base:Nat) (v:Value) (l:List VG) (z:VG) (hs:a.eval s=v) (g:Nat) (hx:a.eval x=.slice (some ⟨g,0,none⟩) 1 1) (h:Hid (RowV w base v l∧w.heap[g]? =some (.cells (vgC z) 92 (0,0))∧l.length<1000000∧base≤w.heap.size)) (hK:∀p c w',Hid (RowV w' base (.slice p (l.length+1) c) (l++[z])∧w.grownBy w' v.ownBlock∧((Value.slice p (l.length+1) c).ownBlock=v.ownBlock∨(Value.slice p (l.length+1) c).ownBlock=some w.heap.size))→wpList Tryz.prog ops Q rest (a.put o.dst (.slice p (l.length+1) c)) w'):wpList Tryz.prog ops Q (o::rest) a w:=by
 obtain⟨h1,hg,hl,hb⟩:=h.out
 obtain⟨i0,hi0,hz0,hz1,hz2⟩:=hBz
 refine wpList_append_own_at _ hgd s x 86 ho base 92 i0 _ 5 72 Tryz.underlying86 hi0 hz0 hz1 hz2 rfl (by decide) v l.length (auz l) hs h1 ⟨g,0,none⟩ 1 1 (baz z) hx rfl (λj u hj=>by
  rw[Addr.add_lit,Nat.zero_add,cellOf hg j]
  simpa[vgC,baz]using hj) (cjz z) (by unfold maxLen;omega) (by omega) hb ?_
 intro v' w' g1 g2 _ g4
 obtain⟨p,c,rfl⟩:=own_slice g1
 refine hK p c w' ⟨?_,g2,g4⟩
 have e:auz (l++[z])=auz l++baz z:=by rw[bpz];simp[auz]
 unfold RowV
 rw[e,List.length_append]
 exact g1
theorem c2z {T:TypeId} {fr:Nat×Nat} {x:VG} (h:w.heap[g]? =some (.cells (vgC x) T fr)):
  w.cell? ⟨g,0,none⟩=some (.int .i64 x.t)∧w.cell? ⟨g,1,none⟩=some (.int .i64 x.n)∧w.cell? ⟨g,2,none⟩=some (.int .i64 x.sq)∧w.cell? ⟨g,3,none⟩=some (.slice x.sp x.ns.length x.sc)∧w.cell? ⟨g,4,none⟩=some (.slice x.dp x.bs.length x.dc):=
 ⟨cellOf h 0,cellOf h 1,cellOf h 2,cellOf h 3,cellOf h 4⟩
end Go.Proofs.YthhakekbffembaaGreatDoor.Ck.Y.L

namespace Go.Proofs.YthhakekbffembaaGreatDoor.Ck.Y.L
open Go.RowKit Go.Maps
variable {w w':World} {x:VG}
structure VC where
 t:Int
 n:Int
 sq:Int
 ns:List Int
 bs:List (BitVec 8)
def VG.c (x:VG):VC:=⟨x.t,x.n,x.sq,x.ns,x.bs⟩
structure VIn (w:World) (x:VG):Prop where
 seen:Cd.Lies w x.sp (x.ns.map Cd.iv)
 sc:x.ns.length≤x.sc
 data:Cd.Bytes w x.dp x.bs
 dc:x.bs.length≤x.dc
 nl:x.ns.length≤1000000
 bl:x.bs.length≤1000000
structure VOwn (w:World) (base:Nat) (x:VG):Prop where
 seen:w.ownsRow base 2 1 (.slice x.sp x.ns.length x.sc) x.ns.length (x.ns.map Cd.iv)
 data:w.ownsRow base 5 1 (.slice x.dp x.bs.length x.dc) x.bs.length (x.bs.map Cd.u8v)
 nl:x.ns.length≤1000000
 bl:x.bs.length≤1000000
theorem VIn.below (h:VIn w x) (hb:Below w.heap.size w w'):VIn w' x:=⟨Cd.below_lies hb h.seen,h.sc,Cd.below_bytes hb h.data,h.dc,h.nl,h.bl⟩
theorem VOwn.below {base:Nat} (h:VOwn w base x) (hb:Below w.heap.size w w'):VOwn w' base x:=⟨own_below h.seen hb,own_below h.data hb,h.nl,h.bl⟩
theorem cIz {base:Nat} {p:Option Addr} {n c:Nat} {ns:List Int} (h:w.ownsRow base 2 1 (.slice p n c) ns.length (ns.map Cd.iv)):Cd.Lies w p (ns.map Cd.iv)∧ns.length≤c:=by
 rcases h.2 with⟨e,h0⟩|⟨g,cap,cur,e,hb,hg,hn,hm,hs,ht⟩
 ·cases e
  exact⟨λh=>absurd h (by simp[h0]),by omega⟩
 ·cases e
  refine⟨λ_=>⟨g,0,rfl,λj v hj=> ?_⟩,hn⟩
  have hlt:=(List.getElem?_eq_some_iff.1 hj).1
  rw[List.length_map]at hlt
  rw[Nat.zero_add,h.cellAt j (by omega),hj]
theorem VOwn.comes {base:Nat} (h:VOwn w base x):VIn w x:=by
 obtain⟨h1,h2⟩:=cIz h.seen
 obtain⟨_,p,cap,e,hc,hb,_⟩:=Cd.owns_bytes h.data
 cases e
 exact⟨h1,h2,hb,hc,h.nl,h.bl⟩
def Hard (w:World) (S:Nat→Prop):Prop:=∀b,S b→∀cs t,w.heap[b]? =some (.cells cs t (0,0))→t≠2∧t≠5
theorem bzz {S:Nat→Prop} {base:Nat} {e:TypeId} {size:Nat} {v:Value} {n:Nat} {xs:List Value} (h:w.ownsRow base e size v n xs) (ho:Only S w w') (hs:∀b,S b→∀cs t,w.heap[b]? =some (.cells cs t (0,0))→t≠e):w'.ownsRow base e size v n xs:=by
 refine⟨h.1, ?_⟩
 rcases h.2 with h0|⟨g,cap,cur,hv,hb,hg,r⟩
 ·exact .inl h0
 ·exact .inr ⟨g,cap,cur,hv,hb,(ho.block g (block_lt hg) (λhS=>hs g hS _ _ hg rfl)).trans hg,r⟩
theorem VOwn.kept {S:Nat→Prop} {base:Nat} (h:VOwn w base x) (ho:Only S w w') (hs:Hard w S):VOwn w' base x:=
 ⟨bzz h.seen ho λb hb cs t ht=>(hs b hb cs t ht).1,bzz h.data ho λb hb cs t ht=>(hs b hb cs t ht).2,h.nl,h.bl⟩
theorem VOwn.base {base base':Nat} (h:VOwn w base x) (hb:base'≤base):VOwn w base' x:=by
 have key:∀{e:TypeId} {v:Value} {n:Nat} {xs:List Value},w.ownsRow base e 1 v n xs→w.ownsRow base' e 1 v n xs:=by
  intro e v n xs h
  refine⟨h.1, ?_⟩
  rcases h.2 with h0|⟨g,cap,cur,hv,hb2,r⟩
  ·exact .inl h0
  ·exact .inr ⟨g,cap,cur,hv,by omega,r⟩
 exact⟨key h.seen,key h.data,h.nl,h.bl⟩
theorem info2:∃i,Tryz.prog.info? 2=some i∧i.zero=some (.int .i64 0)∧i.size=1∧i.bytes=8:=by
 have e:(Tryz.prog.info? 2).map (λi=>(i.zero,i.size,i.bytes))=some (some (.int .i64 0),1,8):=by kernel_rfl
 obtain⟨i,hi,he⟩:=Option.map_eq_some_iff.1 e
 injection he with h1 h2
 injection h2 with h2 h3
 exact⟨i,hi,h1,h2,h3⟩
theorem g7z (ns:List Int):∀v∈ns.map Cd.iv,v.oneCell'=true:=by
 intro v hv
 obtain⟨b,_,rfl⟩:=List.mem_map.1 hv
 rfl
theorem iHz (p:Option Addr) (ns:List Int) (cp:Nat) (w:World) (hl:ns.length≤1000000) (hp:Cd.Lies w p (ns.map Cd.iv)):
  Calls Tryz.prog 136 #[.slice p ns.length cp] w λe w'=>∃v,e=.returned v∧w'.ownsRow w.heap.size 2 1 v ns.length (ns.map Cd.iv)∧Below w.heap.size w w':=by
 have qT:∀(w:World) (a:Option Addr) (n c n' c':Nat),(binOp .eql 31 (.slice a n c) (.slice none n' c')).run Tryz.prog w=.ok (.bool a.isNone) w:=λw a n c n' c'=>Lib.run_eql_slice_nil w _ _ a n c n' c' Tryz.underlying31
 rcases p with _|ad
 ·have h0:ns=[]:=by
   by_cases hl:0<ns.length
   ·obtain⟨_,_,h,_⟩:=hp (by simpa using hl);cases h
   ·exact List.eq_nil_of_length_eq_zero (by omega)
  subst h0
  clear hl hp
  go_enter Tryz.func136,Tryz.ntmps136
  go_wp2
  go_ret
  exact⟨_,rfl,World.ownsRow_nil _ _ _ _,Below.refl _ _⟩
 ·obtain⟨i0,hi0,hz0,hz1,hz2⟩:=info2
  obtain⟨w1,hw1⟩:∃w1,w1=w.alloc (.cells #[] 2):=⟨_,rfl⟩
  have hO:w1.ownsRow w.heap.size 2 1 (.slice (some ⟨w.heap.size,0,none⟩) 0 0) 0 []:=by rw[hw1];exact World.ownsRow_lit w #[] 0 (Nat.le_refl _) (by decide) rfl
  have hB1:Below w.heap.size w w1:=by rw[hw1];exact(a3z w _).out
  have hp1:=Cd.below_lies hB1 hp
  have hsz:w1.heap.size=w.heap.size+1:=by rw[hw1];simp
  obtain⟨v',w',hr,h2,h3,_,h5⟩:=run_append_own_at (P:=Tryz.prog) w1 w.heap.size 31 31 2 i0 _ 1 8 Tryz.underlying31 hi0 hz0 hz1 hz2 rfl (by omega) _ 0 [] hO ad ns.length cp (ns.map Cd.iv) (by simp)
   (λj u hj=>by
    obtain⟨b,o,e,hc⟩:=hp1 (by have:=(List.getElem?_eq_some_iff.1 hj).1;omega)
    cases e
    rw[Addr.add_lit]
    exact hc j u hj) (g7z ns) (by unfold maxLen;omega) (by omega) (by omega)
  have H:Hid (w'.ownsRow w.heap.size 2 1 v' ns.length (ns.map Cd.iv)∧Below w.heap.size w w'):=⟨by simpa using h2,hB1.grown h3 (by omega) (by intro k hk;simp[Value.ownBlock]at hk;omega)⟩
  rw[hw1]at hr
  clear hl hp hw1 hO hB1 hp1 hsz h2 h3 h5 hi0 hz0 hz1 hz2
  go_enter Tryz.func136,Tryz.ntmps136
  go_wp2_with (at_builtin;refine Lib.wpList_append_run _ rfl _ _ _ _ rfl _ _ rfl rfl _ _ hr ?_)
  go_ret
  exact⟨_,rfl,H.out⟩
end Go.Proofs.YthhakekbffembaaGreatDoor.Ck.Y.L

namespace Go.Proofs.YthhakekbffembaaGreatDoor.Ck.Y.L
open Go.RowKit Go.Maps
def set5 (w:World) (b:Nat) (v0 v1 v2 v3 v4:Value):World:=((((w.setCell ⟨b,0,none⟩ v0).setCell ⟨b,1,none⟩ v1).setCell ⟨b,2,none⟩ v2).setCell ⟨b,3,none⟩ v3).setCell ⟨b,4,none⟩ v4
theorem dGz {w:World} {b:Nat} {a0 a1 a2 a3 a4:Value} {T:TypeId} (h:w.heap[b]? =some (.cells #[a0,a1,a2,a3,a4] T (0,0))) (v0 v1 v2 v3 v4:Value):
  (set5 w b v0 v1 v2 v3 v4).heap[b]? =some (.cells #[v0,v1,v2,v3,v4] T (0,0)):=by
 have h0:=a7z (k:=0) h v0
 have h1:=a7z (k:=1) h0 v1
 have h2:=a7z (k:=2) h1 v2
 have h3:=a7z (k:=3) h2 v3
 exact a7z (k:=4) h3 v4
theorem set5_only (w:World) (b:Nat) (v0 v1 v2 v3 v4:Value):Only (λk=>k=b) w (set5 w b v0 v1 v2 v3 v4):=
 ((((Only.setCell (S:=λk=>k=b) _ _ _ rfl).next (Only.setCell (S:=λk=>k=b) _ _ _ rfl)).next (Only.setCell (S:=λk=>k=b) _ _ _ rfl)).next (Only.setCell (S:=λk=>k=b) _ _ _ rfl)).next (Only.setCell (S:=λk=>k=b) _ _ _ rfl)
theorem djz {w:World} {b:Nat} {a0 a1 a2 a3 a4:Value} {T:TypeId} (h:w.heap[b]? =some (.cells #[a0,a1,a2,a3,a4] T (0,0))) (v0 v1 v2 v3 v4:Value):
  (set5 w b v0 v1 v2 v3 v4).cell? ⟨b,0,none⟩=some v0∧(set5 w b v0 v1 v2 v3 v4).cell? ⟨b,1,none⟩=some v1∧(set5 w b v0 v1 v2 v3 v4).cell? ⟨b,2,none⟩=some v2∧(set5 w b v0 v1 v2 v3 v4).cell? ⟨b,3,none⟩=some v3∧(set5 w b v0 v1 v2 v3 v4).cell? ⟨b,4,none⟩=some v4:=
 ⟨cellOf (dGz h _ _ _ _ _) 0,cellOf (dGz h _ _ _ _ _) 1,cellOf (dGz h _ _ _ _ _) 2,cellOf (dGz h _ _ _ _ _) 3,cellOf (dGz h _ _ _ _ _) 4⟩
theorem m8z {w w1 w2:World} {N nl bl:Nat} {t n sq:Int} {ns:List Int} {bs:List (BitVec 8)} {sp dp p1 p2:Option Addr} {sc dc c1 c2:Nat} (hN:w.heap.size=N)
  (H1:w1.ownsRow (N+2) 2 1 (.slice p1 nl c1) nl (ns.map Cd.iv)∧Below w.heap.size w w1∧N+2≤w1.heap.size)
  (J1:w1.heap[N]? =some (.cells #[.int .i64 t,.int .i64 n,.int .i64 sq,.slice sp nl sc,.slice dp bl dc] 92 (0,0))∧w1.heap[N+1]? =some (.cells #[.int .i64 0,.int .i64 0,.int .i64 0,.slice none 0 0,.slice none 0 0] 92 (0,0))) (ho2:w2.ownsRow (w1.setCell ⟨N,3,none⟩ (.slice p1 nl c1)).heap.size 5 1 (.slice p2 bl c2) bl (bs.map Cd.u8v)) (hb2:Below (w1.setCell ⟨N,3,none⟩ (.slice p1 nl c1)).heap.size (w1.setCell ⟨N,3,none⟩ (.slice p1 nl c1)) w2):
  (w2.ownsRow (N+2) 2 1 (.slice p1 nl c1) nl (ns.map Cd.iv)∧w2.ownsRow (N+2) 5 1 (.slice p2 bl c2) bl (bs.map Cd.u8v)∧Below w.heap.size w w2)∧
  (w2.setCell ⟨N,4,none⟩ (.slice p2 bl c2)).heap[N]? =some (.cells #[.int .i64 t,.int .i64 n,.int .i64 sq,.slice p1 nl c1,.slice p2 bl c2] 92 (0,0))∧(w2.setCell ⟨N,4,none⟩ (.slice p2 bl c2)).heap[N+1]? =some (.cells #[.int .i64 0,.int .i64 0,.int .i64 0,.slice none 0 0,.slice none 0 0] 92 (0,0))∧w2.frozen? ⟨N,4,none⟩=false∧w2.cell? ⟨N,4,none⟩=some (.slice dp bl dc)∧∃cs,w2.heap[N]? =some (.cells cs 92 (0,0)):=by
 have hsz:(w1.setCell ⟨N,3,none⟩ (.slice p1 nl c1)).heap.size=w1.heap.size:=by simp
 have q1:=(hb2.block N (by have:=H1.2.2;omega)).trans (a7z (k:=3) J1.1 (.slice p1 nl c1))
 have q2:=(hb2.block (N+1) (by have:=H1.2.2;omega)).trans ((Below.heap_setCell w1 ⟨N,3,none⟩ (.slice p1 nl c1) (N+1) (by simp)).trans J1.2)
 have hx:Only (λb=>b=N) w1 (w1.setCell ⟨N,3,none⟩ (.slice p1 nl c1)):=Only.setCell (S:=λb=>b=N) _ _ _ rfl
 refine⟨⟨own_below (bzz H1.1 hx (λb hb cs t ht=> ?_)) hb2, ?_, ?_⟩,a7z q1 _,(Below.heap_setCell w2 ⟨N,4,none⟩ (.slice p2 bl c2) (N+1) (by simp)).trans q2,aez q1 4,cellOf q1 4,_,q1⟩
 ·subst hb;rw[J1.1]at ht;cases ht;decide
 ·refine⟨ho2.1, ?_⟩
  rcases ho2.2 with h0|⟨g,cap,cur,hv,hb,r⟩
  ·exact .inl h0
  ·exact .inr ⟨g,cap,cur,hv,by have:=H1.2.2;omega,r⟩
 ·exact(H1.2.1.setCell (show w.heap.size≤(⟨N,3,none⟩:Addr).block from Nat.le_of_eq hN) _).trans (hb2.mono (by rw[hsz];exact H1.2.1.size))
theorem j7z (t n sq:Int) (ns:List Int) (sp:Option Addr) (sc nl:Nat) (bs:List (BitVec 8)) (dp:Option Addr) (dc bl:Nat) (w:World) (hml:ns.length=nl) (hmb:bs.length=bl) (hs:Cd.Lies w sp (ns.map Cd.iv)) (hnl:ns.length≤1000000) (hd:Cd.Bytes w dp bs) (hbl:bs.length≤1000000):
   Calls Tryz.prog 96 #[.agg #[.int .i64 t,.int .i64 n,.int .i64 sq,.slice sp nl sc,.slice dp bl dc]] w λe w'=>∃p1 c1 p2 c2,e=.returned (.agg #[.int .i64 t,.int .i64 n,.int .i64 sq,.slice p1 nl c1,.slice p2 bl c2])∧VOwn w' w.heap.size ⟨t,n,sq,ns,p1,c1,bs,p2,c2⟩∧Below w.heap.size w w':=by
 have HS:Hid (∀W,Below w.heap.size w W→Calls Tryz.prog 136 #[.slice sp nl sc] W λe w'=>∃v,e=.returned v∧w'.ownsRow W.heap.size 2 1 v nl (ns.map Cd.iv)∧Below W.heap.size W w'):=λW hW=>by
   have:=iHz sp ns sc W hnl (Cd.below_lies hW hs)
   rwa [hml]at this
 have HD:Hid (∀W,Below w.heap.size w W→Calls Tryz.prog 94 #[.slice dp bl dc] W λe w'=>∃v,e=.returned v∧Cd.Cloned W bs v w'):=λW hW=>by
   have:=Cd.clone_any dp bs dc W (by omega) (Cd.below_bytes hW hd)
   rwa [hmb]at this
 have HL:=a0z (agz hnl hbl)
 obtain⟨N,hN⟩:∃N,w.heap.size=N:=⟨_,rfl⟩
 obtain⟨W0,hW0⟩:∃W0,W0=(w.alloc (.cells #[.int .i64 t,.int .i64 n,.int .i64 sq,.slice sp nl sc,.slice dp bl dc] 92)).alloc (.cells #[.int .i64 0,.int .i64 0,.int .i64 0,.slice none 0 0,.slice none 0 0] 92):=⟨_,rfl⟩
 have b0:Below w.heap.size w W0:=by rw[hW0];exact(b0z w _ _).out
 have s0:W0.heap.size=N+2:=by rw[hW0];simp;omega
 have k1:W0.heap[N]? =some (.cells #[.int .i64 t,.int .i64 n,.int .i64 sq,.slice sp nl sc,.slice dp bl dc] 92 (0,0)):=by
   rw[hW0,Below.heap_alloc _ _ _ (by simp;omega),← hN];exact heap_alloc_new w _
 have k2:W0.heap[N+1]? =some (.cells #[.int .i64 0,.int .i64 0,.int .i64 0,.slice none 0 0,.slice none 0 0] 92 (0,0)):=by
   have:=heap_alloc_new (w.alloc (.cells #[.int .i64 t,.int .i64 n,.int .i64 sq,.slice sp nl sc,.slice dp bl dc] 92)) (.cells #[.int .i64 0,.int .i64 0,.int .i64 0,.slice none 0 0,.slice none 0 0] 92)
   rw[← hW0]at this
   rwa [show(w.alloc (.cells #[.int .i64 t,.int .i64 n,.int .i64 sq,.slice sp nl sc,.slice dp bl dc] 92)).heap.size=N+1 by simp;omega]at this
 have HW:=a0z hW0
 have H0:=a0z (agz b0 (agz s0 (agz k1 k2)))
 have HN:=a0z hN
 have d3:((w.alloc (.cells #[.int .i64 t,.int .i64 n,.int .i64 sq,.slice sp nl sc,.slice dp bl dc] 92)).alloc (.cells #[.int .i64 0,.int .i64 0,.int .i64 0,.slice none 0 0,.slice none 0 0] 92)).cell? ⟨w.heap.size,3,none⟩=some (.slice sp nl sc):=by rw[← hW0,hN];exact cellOf k1 3
 clear hs hd hnl hbl hW0 b0 s0 k1 k2 hN
 have HML:=a0z (agz hml hmb)
 clear hml hmb
 go_enter Tryz.func96,Tryz.ntmps96
 go_wp2_with (first
   |(go_at_call 136;rw[← HW.out];refine(HS.out _ H0.out.1).mono ?_;clear HS;rintro e w1 ⟨v1,rfl,ho1,hb1⟩
     obtain⟨p1,c1,rfl⟩:=own_slice ho1
     have j1:w1.heap[N]? =_:=(hb1.block N (by rw[H0.out.2.1];omega)).trans H0.out.2.2.1
     have j2:w1.heap[N+1]? =_:=(hb1.block (N+1) (by rw[H0.out.2.1];omega)).trans H0.out.2.2.2
     have H1:Hid (w1.ownsRow (N+2) 2 1 (.slice p1 nl c1) nl (ns.map Cd.iv)∧Below w.heap.size w w1∧N+2≤w1.heap.size):=⟨by rw[← H0.out.2.1];exact ho1,H0.out.1.trans (hb1.mono H0.out.1.size),by rw[← H0.out.2.1];exact hb1.size⟩
     have J1:=a0z (agz j1 j2)
     rw[HN.out]
     have f3:=aez j1 3
     have e3:w1.cell? ⟨N,3,none⟩=some (.slice sp nl sc):=cellOf j1 3
     have e4:(w1.setCell ⟨N,3,none⟩ (.slice p1 nl c1)).cell? ⟨N,4,none⟩=some (.slice dp bl dc):=cellOf (a7z j1 _) 4
     clear j1 j2 ho1 hb1 d3)
   |(go_at_call 94;refine(HD.out _ ?_).mono ?_
     · exact H1.out.2.1.setCell (by rw[HN.out];exact Nat.le_refl _) _
     clear HD;rintro e w2 ⟨v2,rfl,ho2,hb2⟩
     rw[HML.out.2]at ho2
     obtain⟨p2,c2,rfl⟩:=own_slice ho2
     have HM2:=m8z HN.out H1.out J1.out ho2 hb2
     have H2:Hid ((w2.ownsRow (N+2) 2 1 (.slice p1 nl c1) nl (ns.map Cd.iv)∧w2.ownsRow (N+2) 5 1 (.slice p2 bl c2) bl (bs.map Cd.u8v)∧Below w.heap.size w w2)∧(w2.setCell ⟨N,4,none⟩ (.slice p2 bl c2)).heap[N]? =some (.cells #[.int .i64 t,.int .i64 n,.int .i64 sq,.slice p1 nl c1,.slice p2 bl c2] 92 (0,0))∧(w2.setCell ⟨N,4,none⟩ (.slice p2 bl c2)).heap[N+1]? =some (.cells #[.int .i64 0,.int .i64 0,.int .i64 0,.slice none 0 0,.slice none 0 0] 92 (0,0))):=⟨HM2.1,HM2.2.1,HM2.2.2.1⟩
     have q1:=HM2.2.1
     have q3:=HM2.2.2.1
     have g4:=HM2.2.2.2.1
     have g5:=HM2.2.2.2.2.1
     have H3:Hid (∃cs,w2.heap[N]? =some (.cells cs 92 (0,0))):=HM2.2.2.2.2.2
     clear HM2
     have d0:(w2.setCell ⟨N,4,none⟩ (.slice p2 bl c2)).cell? ⟨N,0,none⟩=some (.int .i64 t):=cellOf q1 0
     have d1:(w2.setCell ⟨N,4,none⟩ (.slice p2 bl c2)).cell? ⟨N,1,none⟩=some (.int .i64 n):=cellOf q1 1
     have d2:(w2.setCell ⟨N,4,none⟩ (.slice p2 bl c2)).cell? ⟨N,2,none⟩=some (.int .i64 sq):=cellOf q1 2
     have d3:(w2.setCell ⟨N,4,none⟩ (.slice p2 bl c2)).cell? ⟨N,3,none⟩=some (.slice p1 nl c1):=cellOf q1 3
     have d4:(w2.setCell ⟨N,4,none⟩ (.slice p2 bl c2)).cell? ⟨N,4,none⟩=some (.slice p2 bl c2):=cellOf q1 4
     have z0:(w2.setCell ⟨N,4,none⟩ (.slice p2 bl c2)).cell? ⟨N+1,0,none⟩=some (.int .i64 0):=cellOf q3 0
     have z1:(w2.setCell ⟨N,4,none⟩ (.slice p2 bl c2)).cell? ⟨N+1,1,none⟩=some (.int .i64 0):=cellOf q3 1
     have z2:(w2.setCell ⟨N,4,none⟩ (.slice p2 bl c2)).cell? ⟨N+1,2,none⟩=some (.int .i64 0):=cellOf q3 2
     have z3:(w2.setCell ⟨N,4,none⟩ (.slice p2 bl c2)).cell? ⟨N+1,3,none⟩=some (.slice none 0 0):=cellOf q3 3
     have z4:(w2.setCell ⟨N,4,none⟩ (.slice p2 bl c2)).cell? ⟨N+1,4,none⟩=some (.slice none 0 0):=cellOf q3 4
     have y0:=aez q3 0
     have y1:=aez q3 1
     have y2:=aez q3 2
     have y3:=aez q3 3
     have y4:=aez q3 4
     clear q1 q3 ho2 hb2 f3 e4))
 obtain⟨W,hW⟩:∃W,W=set5 (w2.setCell ⟨N,4,none⟩ (.slice p2 bl c2)) (N+1) (.int .i64 t) (.int .i64 n) (.int .i64 sq) (.slice p1 nl c1) (.slice p2 bl c2):=⟨_,rfl⟩
 have hc:=djz H2.out.2.2 (.int .i64 t) (.int .i64 n) (.int .i64 sq) (.slice p1 nl c1) (.slice p2 bl c2)
 rw[← hW]at hc
 obtain⟨r0,r1,r2,r3,r4⟩:=hc
 have hO:=(Only.setCell (S:=λk=>k=N∨k=N+1) w2 ⟨N,4,none⟩ (.slice p2 bl c2) (.inl rfl)).trans (set5_only (w2.setCell ⟨N,4,none⟩ (.slice p2 bl c2)) (N+1) (.int .i64 t) (.int .i64 n) (.int .i64 sq) (.slice p1 nl c1) (.slice p2 bl c2)) (λi hi=>.inl (.inr hi))
 rw[← hW]at hO
 change bodyPost _ _ _ _ _ (set5 _ _ _ _ _ _ _)
 rw[← hW]
 refine bodyPost_ret (v:=.agg #[.int .i64 t,.int .i64 n,.int .i64 sq,.slice p1 nl c1,.slice p2 bl c2]) (by simp[results,Tryz.results96,go_sem,r0,r1,r2,r3,r4]) rfl ?_
 have hard:Hard w2 (λk=>k=N∨k=N+1):=by
   have e1:w2.heap[N+1]? =_:=(Below.heap_setCell w2 ⟨N,4,none⟩ (.slice p2 bl c2) (N+1) (by simp)).symm.trans H2.out.2.2
   obtain⟨cs0,e0⟩:=H3.out
   rintro b (rfl|rfl) cs t ht
   · rw[e0]at ht;cases ht;decide
   · rw[e1]at ht;cases ht;decide
 refine⟨p1,c1,p2,c2,rfl,VOwn.base (VOwn.kept ⟨?_, ?_, ?_, ?_⟩ hO hard) (show w.heap.size≤N+2 by have:=HN.out;omega), ?_⟩
 · show w2.ownsRow _ 2 1 (.slice p1 ns.length c1) ns.length _
   rw[HML.out.1];exact H2.out.1.1
 · show w2.ownsRow _ 5 1 (.slice p2 bs.length c2) bs.length _
   rw[HML.out.2];exact H2.out.1.2.1
 · exact HL.out.1
 · exact HL.out.2
 · have:=HN.out
   exact H2.out.1.2.2.trans ((hO.below (B:=N) (by have:=H2.out.1.2.2.size;omega) (λi hi=>by omega)).mono (Nat.le_of_eq this))
theorem luz (x:VG) (w:World) (h:VIn w x):
  Calls Tryz.prog 96 #[vgv x] w λe w'=>∃y:VG,e=.returned (vgv y)∧y.c=x.c∧VOwn w' w.heap.size y∧Below w.heap.size w w':=by
 refine(j7z x.t x.n x.sq x.ns x.sp x.sc x.ns.length x.bs x.dp x.dc x.bs.length w rfl rfl h.seen h.nl h.data h.bl).mono ?_
 rintro e w' ⟨p1,c1,p2,c2,rfl,h1,h2⟩
 exact⟨⟨x.t,x.n,x.sq,x.ns,p1,c1,x.bs,p2,c2⟩,rfl,rfl,h1,h2⟩
theorem nyz (t n sq kd ot on pt pn:Int) (nm:ByteArray) (ns:List Int) (sp:Option Addr) (sc nl:Nat) (bs:List (BitVec 8)) (dp:Option Addr) (dc bl:Nat) (w:World) (hml:ns.length=nl) (hmb:bs.length=bl) (hs:Cd.Lies w sp (ns.map Cd.iv)) (hnl:ns.length≤1000000) (hd:Cd.Bytes w dp bs) (hbl:bs.length≤1000000):
   Calls Tryz.prog 116 #[.agg #[.int .i64 t,.int .i64 n,.int .i64 sq,.int .i64 kd,.int .i64 ot,.int .i64 on,.int .i64 pt,.int .i64 pn,.string nm,.slice dp bl dc,.slice sp nl sc]] w λe w'=>∃p1 c1 p2 c2,e=.returned (.agg #[.int .i64 t,.int .i64 n,.int .i64 sq,.slice p1 nl c1,.slice p2 bl c2])∧VOwn w' w.heap.size ⟨t,n,sq,ns,p1,c1,bs,p2,c2⟩∧Below w.heap.size w w':=by
 have HC:Hid (∀W,Below w.heap.size w W→Calls Tryz.prog 96 #[.agg #[.int .i64 t,.int .i64 n,.int .i64 sq,.slice sp nl sc,.slice dp bl dc]] W λe w'=>∃p1 c1 p2 c2,e=.returned (.agg #[.int .i64 t,.int .i64 n,.int .i64 sq,.slice p1 nl c1,.slice p2 bl c2])∧VOwn w' W.heap.size ⟨t,n,sq,ns,p1,c1,bs,p2,c2⟩∧Below W.heap.size W w'):=λW hW=>j7z t n sq ns sp sc nl bs dp dc bl W hml hmb (Cd.below_lies hW hs) hnl (Cd.below_bytes hW hd) hbl
 obtain⟨N,hN⟩:∃N,w.heap.size=N:=⟨_,rfl⟩
 have HN:=a0z hN
 obtain⟨W0,hW0⟩:∃W0,W0=(w.alloc (.cells #[.int .i64 t,.int .i64 n,.int .i64 sq,.int .i64 kd,.int .i64 ot,.int .i64 on,.int .i64 pt,.int .i64 pn,.string nm,.slice dp bl dc,.slice sp nl sc] 33)).alloc (.cells #[.int .i64 0,.int .i64 0,.int .i64 0,.slice none 0 0,.slice none 0 0] 92):=⟨_,rfl⟩
 have b0:Below w.heap.size w W0:=by rw[hW0];exact(b0z w _ _).out
 have s0:W0.heap.size=N+2:=by rw[hW0];simp;omega
 have k1:W0.heap[N]? =some (.cells #[.int .i64 t,.int .i64 n,.int .i64 sq,.int .i64 kd,.int .i64 ot,.int .i64 on,.int .i64 pt,.int .i64 pn,.string nm,.slice dp bl dc,.slice sp nl sc] 33 (0,0)):=by
   rw[hW0,Below.heap_alloc _ _ _ (by simp;omega),← hN];exact heap_alloc_new w _
 have k2:W0.heap[N+1]? =some (.cells #[.int .i64 0,.int .i64 0,.int .i64 0,.slice none 0 0,.slice none 0 0] 92 (0,0)):=by
   have:=heap_alloc_new (w.alloc (.cells #[.int .i64 t,.int .i64 n,.int .i64 sq,.int .i64 kd,.int .i64 ot,.int .i64 on,.int .i64 pt,.int .i64 pn,.string nm,.slice dp bl dc,.slice sp nl sc] 33)) (.cells #[.int .i64 0,.int .i64 0,.int .i64 0,.slice none 0 0,.slice none 0 0] 92)
   rw[← hW0]at this
   rwa [show(w.alloc (.cells #[.int .i64 t,.int .i64 n,.int .i64 sq,.int .i64 kd,.int .i64 ot,.int .i64 on,.int .i64 pt,.int .i64 pn,.string nm,.slice dp bl dc,.slice sp nl sc] 33)).heap.size=N+1 by simp;omega]at this
 have HW:=a0z hW0
 have H0:=a0z (agz b0 (agz s0 k2))
 have a0:=cellOf k1 0
 have a1:=cellOf k1 1
 have a2:=cellOf k1 2
 have a9:=cellOf k1 9
 have a10:=cellOf k1 10
 rw[hW0,← hN]at a0 a1 a2 a9 a10
 have AA:((w.alloc (.cells #[.int .i64 t,.int .i64 n,.int .i64 sq,.int .i64 kd,.int .i64 ot,.int .i64 on,.int .i64 pt,.int .i64 pn,.string nm,.slice dp bl dc,.slice sp nl sc] 33)).alloc (.cells #[.int .i64 0,.int .i64 0,.int .i64 0,.slice none 0 0,.slice none 0 0] 92)).cell? ⟨w.heap.size,0,none⟩=some (.int .i64 t)∧((w.alloc (.cells #[.int .i64 t,.int .i64 n,.int .i64 sq,.int .i64 kd,.int .i64 ot,.int .i64 on,.int .i64 pt,.int .i64 pn,.string nm,.slice dp bl dc,.slice sp nl sc] 33)).alloc (.cells #[.int .i64 0,.int .i64 0,.int .i64 0,.slice none 0 0,.slice none 0 0] 92)).cell? ⟨w.heap.size,1,none⟩=some (.int .i64 n)∧((w.alloc (.cells #[.int .i64 t,.int .i64 n,.int .i64 sq,.int .i64 kd,.int .i64 ot,.int .i64 on,.int .i64 pt,.int .i64 pn,.string nm,.slice dp bl dc,.slice sp nl sc] 33)).alloc (.cells #[.int .i64 0,.int .i64 0,.int .i64 0,.slice none 0 0,.slice none 0 0] 92)).cell? ⟨w.heap.size,2,none⟩=some (.int .i64 sq)∧((w.alloc (.cells #[.int .i64 t,.int .i64 n,.int .i64 sq,.int .i64 kd,.int .i64 ot,.int .i64 on,.int .i64 pt,.int .i64 pn,.string nm,.slice dp bl dc,.slice sp nl sc] 33)).alloc (.cells #[.int .i64 0,.int .i64 0,.int .i64 0,.slice none 0 0,.slice none 0 0] 92)).cell? ⟨w.heap.size,9,none⟩=some (.slice dp bl dc)∧((w.alloc (.cells #[.int .i64 t,.int .i64 n,.int .i64 sq,.int .i64 kd,.int .i64 ot,.int .i64 on,.int .i64 pt,.int .i64 pn,.string nm,.slice dp bl dc,.slice sp nl sc] 33)).alloc (.cells #[.int .i64 0,.int .i64 0,.int .i64 0,.slice none 0 0,.slice none 0 0] 92)).cell? ⟨w.heap.size,10,none⟩=some (.slice sp nl sc):=⟨a0,a1,a2,a9,a10⟩
 clear a0 a1 a2 a9 a10
 obtain⟨a0,a1,a2,a9,a10⟩:=AA
 clear hml hmb hs hnl hd hbl hW0 b0 s0 k1 k2 hN
 go_enter Tryz.func116,Tryz.ntmps116
 go_wp2_with (go_at_call 96;rw[← HW.out];refine(HC.out _ H0.out.1).mono ?_;clear HC;rintro e w1 ⟨p1,c1,p2,c2,rfl,ho1,hb1⟩
              have j2:w1.heap[N+1]? =_:=(hb1.block (N+1) (by rw[H0.out.2.1];omega)).trans H0.out.2.2
              rw[H0.out.2.1]at ho1
              have H1:Hid (VOwn w1 (N+2) ⟨t,n,sq,ns,p1,c1,bs,p2,c2⟩∧Below w.heap.size w w1∧w1.heap[N+1]? =some (.cells #[.int .i64 0,.int .i64 0,.int .i64 0,.slice none 0 0,.slice none 0 0] 92 (0,0))):=⟨ho1,H0.out.1.trans (hb1.mono H0.out.1.size),j2⟩
              rw[HN.out]
              have z0:w1.cell? ⟨N+1,0,none⟩=some (.int .i64 0):=cellOf j2 0
              have z1:w1.cell? ⟨N+1,1,none⟩=some (.int .i64 0):=cellOf j2 1
              have z2:w1.cell? ⟨N+1,2,none⟩=some (.int .i64 0):=cellOf j2 2
              have z3:w1.cell? ⟨N+1,3,none⟩=some (.slice none 0 0):=cellOf j2 3
              have z4:w1.cell? ⟨N+1,4,none⟩=some (.slice none 0 0):=cellOf j2 4
              have y0:=aez j2 0
              have y1:=aez j2 1
              have y2:=aez j2 2
              have y3:=aez j2 3
              have y4:=aez j2 4
              clear j2 ho1 hb1 a0 a1 a2 a9 a10)
 obtain⟨W,hW⟩:∃W,W=set5 w1 (N+1) (.int .i64 t) (.int .i64 n) (.int .i64 sq) (.slice p1 nl c1) (.slice p2 bl c2):=⟨_,rfl⟩
 have hc:=djz H1.out.2.2 (.int .i64 t) (.int .i64 n) (.int .i64 sq) (.slice p1 nl c1) (.slice p2 bl c2)
 rw[← hW]at hc
 obtain⟨r0,r1,r2,r3,r4⟩:=hc
 have hO:=set5_only w1 (N+1) (.int .i64 t) (.int .i64 n) (.int .i64 sq) (.slice p1 nl c1) (.slice p2 bl c2)
 rw[← hW]at hO
 change bodyPost _ _ _ _ _ (set5 _ _ _ _ _ _ _)
 rw[← hW]
 refine bodyPost_ret (v:=.agg #[.int .i64 t,.int .i64 n,.int .i64 sq,.slice p1 nl c1,.slice p2 bl c2]) (by simp[results,Tryz.results116,go_sem,r0,r1,r2,r3,r4]) rfl ?_
 have hard:Hard w1 (λk=>k=N+1):=by
   rintro b rfl cs t ht
   rw[H1.out.2.2]at ht;cases ht;decide
 refine⟨p1,c1,p2,c2,rfl,VOwn.base (VOwn.kept H1.out.1 hO hard) (show w.heap.size≤N+2 by have:=HN.out;omega), ?_⟩
 have:=HN.out
 exact H1.out.2.1.trans ((hO.below (B:=N) (by have:=H1.out.2.1.size;omega) (λi hi=>by omega)).mono (Nat.le_of_eq this))
end Go.Proofs.YthhakekbffembaaGreatDoor.Ck.Y.L

namespace Go.Proofs.YthhakekbffembaaGreatDoor.Ck.Y.L
open Go.RowKit Go.Maps
theorem a5z {w w':World} {b k:Nat} {v:Value} (h:w.cell? ⟨b,k,none⟩=some v) (hb:Below w.heap.size w w'):w'.cell? ⟨b,k,none⟩=some v:=(hb.cell (p:=⟨b,k,none⟩) (a4z h)).trans h
theorem a2z {a b c:World} (h:Below a.heap.size a b) (k:Below b.heap.size b c):Below a.heap.size a c:=h.trans (k.mono h.size)
theorem a6z (w:World):Below w.heap.size w w.drew:=⟨rfl,rfl,rfl,Nat.le_refl _,λ_ _=>rfl⟩
def aDz (sq n:Int) (ns:List Int):Bool:=decide (sq≤Vc.atZ ns n)
theorem ksz (t n sq:Int) (sp dp:Option Addr) (nl sc bl dc:Nat) (q:Option Addr) (ns:List Int) (ml mc:Nat) (w:World) (hm:ns.length=ml) (hq:Cd.Lies w q (ns.map Cd.iv)):
  Calls Tryz.prog 190 #[.agg #[.int .i64 t,.int .i64 n,.int .i64 sq,.slice sp nl sc,.slice dp bl dc],.slice q ml mc] w λe w'=>e=.returned (.bool (aDz sq n ns))∧Below w.heap.size w w':=by
 obtain⟨w2,hw2⟩:∃w2,w2=w.alloc (.cells #[.int .i64 t,.int .i64 n,.int .i64 sq,.slice sp nl sc,.slice dp bl dc] 92):=⟨_,rfl⟩
 have hk:w2.heap[w.heap.size]? =some (.cells #[.int .i64 t,.int .i64 n,.int .i64 sq,.slice sp nl sc,.slice dp bl dc] 92 (0,0)):=by rw[hw2];exact heap_alloc_new w _
 have HB:Hid (Below w.heap.size w w2):=by rw[hw2];exact a3z w _
 have c1:=cellOf hk 1
 have c2:=cellOf hk 2
 have CC:w2.cell? ⟨w.heap.size,1,none⟩=some (.int .i64 n)∧w2.cell? ⟨w.heap.size,2,none⟩=some (.int .i64 sq):=⟨c1,c2⟩
 clear c1 c2
 obtain⟨c1,c2⟩:=CC
 have HA:∀W,Below w2.heap.size w2 W→Calls Tryz.prog 140 #[.slice q ml mc,.int .i64 n] W λe w'=>e=.returned (.int .i64 (Vc.atZ ns n))∧Below W.heap.size W w':=λW hW=>by
  have:=Vc.at_any q ns mc n W (Cd.below_lies (a2z HB.out hW) hq)
  rw[hm]at this
  exact huz this
 obtain⟨z,hz⟩:∃z,Vc.atZ ns n=z:=⟨_,rfl⟩
 have HX:Hid (aDz sq n ns=decide (sq≤z)):=by show _=_;unfold aDz;rw[hz]
 rw[hz]at HA
 have HW2:=a0z hw2
 clear hm hq hz hk hw2
 go_enter Tryz.func190,Tryz.ntmps190
 go_wp2_with fail
 rw[← HW2.out]
 have HF:∀W,(W.cell? ⟨w.heap.size,1,none⟩=some (.int .i64 n)∧W.cell? ⟨w.heap.size,2,none⟩=some (.int .i64 sq)∧Hid (Below w2.heap.size w2 W))→Below w2.heap.size w2 W:=λW hW=>hW.2.2.out
 have HK:∀W,Below w2.heap.size w2 W→W.cell? ⟨w.heap.size,1,none⟩=some (.int .i64 n)∧W.cell? ⟨w.heap.size,2,none⟩=some (.int .i64 sq)∧Hid (Below w2.heap.size w2 W):=λW hb=>⟨a5z c1 hb,a5z c2 hb,hb⟩
 have HS:=λW W' h1 (h2:Hid (Below W.heap.size W W'))=>HK W' (a2z (HF W h1) h2.out)
 have S1:=HK _ (a6z w2);have S2:=HK _ (Below.refl _ _)
 go_region_held3 (λW=>W.cell? ⟨w.heap.size,1,none⟩=some (.int .i64 n)∧W.cell? ⟨w.heap.size,2,none⟩=some (.int .i64 sq)∧Hid (Below w2.heap.size w2 W))
  (first|exact S1|exact S2|assumption|exact HS _ _ (by assumption) (by assumption))
  (first|(go_at_call 140;refine acz (HA _ (HF _ (by assumption))) ?_;intro w3 HB3))
 have HW:Hid (Below w2.heap.size w2 _):=HF _ (by assumption)
 go_wp2
 go_ret
 rw[HX.out]
 exact⟨rfl,a2z HB.out HW.out⟩
theorem ijz (x:VG) (q:Option Addr) (ns:List Int) (mc:Nat) (w:World) (hq:Cd.Lies w q (ns.map Cd.iv)):
  Calls Tryz.prog 190 #[vgv x,.slice q ns.length mc] w λe w'=>e=.returned (.bool (aDz x.sq x.n ns))∧Below w.heap.size w w':=ksz x.t x.n x.sq x.sp x.dp x.ns.length x.sc x.bs.length x.dc q ns ns.length mc w rfl hq
theorem cez (x:VG) (t' n':Int) (w:World):
  Calls Tryz.prog 156 #[vgv x,idv t' n'] w λe w'=>e=.returned (.int .i64 (bdz x.t x.n t' n'))∧Below w.heap.size w w':=by
 obtain⟨W0,hW0⟩:∃W0,W0=(w.alloc (.cells (vgC x) 92)).alloc (.cells #[.int .i64 t',.int .i64 n'] 28):=⟨_,rfl⟩
 have b0:Below w.heap.size w W0:=by rw[hW0];exact(b0z w _ _).out
 have k1:W0.heap[w.heap.size]? =some (.cells (vgC x) 92 (0,0)):=by
  rw[hW0,Below.heap_alloc _ _ _ (by simp)];exact heap_alloc_new w _
 have k2:W0.heap[w.heap.size+1]? =some (.cells #[.int .i64 t',.int .i64 n'] 28 (0,0)):=by
  have:=heap_alloc_new (w.alloc (.cells (vgC x) 92)) (.cells #[.int .i64 t',.int .i64 n'] 28)
  rw[← hW0]at this
  rwa [show(w.alloc (.cells (vgC x) 92)).heap.size=w.heap.size+1 by simp]at this
 have HC:Hid (Calls Tryz.prog 102 #[idv x.t x.n,idv t' n'] W0 λe w'=>e=.returned (.int .i64 (bdz x.t x.n t' n'))∧Below W0.heap.size W0 w'):=eAz x.t x.n t' n' W0
 have HB:=a0z b0
 obtain⟨a0,a1,a2,a3,a4⟩:=c2z k1
 have z0:W0.cell? ⟨w.heap.size+1,0,none⟩=some (.int .i64 t'):=cellOf k2 0
 have z1:W0.cell? ⟨w.heap.size+1,1,none⟩=some (.int .i64 n'):=cellOf k2 1
 have HW:=a0z hW0
 clear b0 k1 k2 hW0
 obtain⟨t,n,sq,ns,sp,sc,bs,dp,dc⟩:=x
 simp only[vgv,vgC]at*
 generalize bdz t n t' n'=r at*
 generalize ns.length=nl at*
 generalize bs.length=bl at*
 go_enter Tryz.func156,Tryz.ntmps156
 go_wp2_with (go_at_call 102;rw[← HW.out];refine acz HC.out ?_;intro w3 HB3)
 go_ret
 exact⟨rfl,a2z HB.out HB3.out⟩
theorem fyz (x:VG) (fb:Nat) (q:Option Addr) (ns:List Int) (mc:Nat) (w:World) (hf:w.cell? ⟨fb,1,none⟩=some (.slice q ns.length mc)) (hq:Cd.Lies w q (ns.map Cd.iv)):
  Calls Tryz.prog 154 #[.pointer (some ⟨fb,0,none⟩),vgv x] w λe w'=>e=.returned (.bool (aDz x.sq x.n ns))∧Below w.heap.size w w':=by
 obtain⟨w2,hw2⟩:∃w2,w2=w.alloc (.cells (vgC x) 92):=⟨_,rfl⟩
 have hk:w2.heap[w.heap.size]? =some (.cells (vgC x) 92 (0,0)):=by rw[hw2];exact heap_alloc_new w _
 have HB:Hid (Below w.heap.size w w2):=by rw[hw2];exact a3z w _
 have HA:∀W,Below w2.heap.size w2 W→Calls Tryz.prog 190 #[vgv x,.slice q ns.length mc] W λe w'=>e=.returned (.bool (aDz x.sq x.n ns))∧Below W.heap.size W w':=λW hW=>ijz x q ns mc W (Cd.below_lies (a2z HB.out hW) hq)
 have cf:w2.cell? ⟨fb,1,none⟩=some (.slice q ns.length mc):=a5z hf HB.out
 obtain⟨a0,a1,a2,a3,a4⟩:=c2z hk
 generalize aDz x.sq x.n ns=r at*
 have HW2:=a0z hw2
 clear hq hk hw2 hf
 obtain⟨t,n,sq,ns',sp,sc,bs,dp,dc⟩:=x
 simp only[vgv,vgC]at*
 generalize ns'.length=nl at*
 generalize bs.length=bl at*
 generalize ns.length=ml at*
 go_enter Tryz.func154,Tryz.ntmps154
 go_wp2_with fail
 rw[← HW2.out]
 have HF:∀W,(W.cell? ⟨w.heap.size,0,none⟩=some (.int .i64 t)∧W.cell? ⟨w.heap.size,1,none⟩=some (.int .i64 n)∧W.cell? ⟨w.heap.size,2,none⟩=some (.int .i64 sq)∧W.cell? ⟨w.heap.size,3,none⟩=some (.slice sp nl sc)∧W.cell? ⟨w.heap.size,4,none⟩=some (.slice dp bl dc)∧W.cell? ⟨fb,1,none⟩=some (.slice q ml mc)∧Hid (Below w2.heap.size w2 W))→Below w2.heap.size w2 W:=λW hW=>hW.2.2.2.2.2.2.out
 have HK:∀W,Below w2.heap.size w2 W→W.cell? ⟨w.heap.size,0,none⟩=some (.int .i64 t)∧W.cell? ⟨w.heap.size,1,none⟩=some (.int .i64 n)∧W.cell? ⟨w.heap.size,2,none⟩=some (.int .i64 sq)∧W.cell? ⟨w.heap.size,3,none⟩=some (.slice sp nl sc)∧W.cell? ⟨w.heap.size,4,none⟩=some (.slice dp bl dc)∧W.cell? ⟨fb,1,none⟩=some (.slice q ml mc)∧Hid (Below w2.heap.size w2 W):=λW hb=>⟨a5z a0 hb,a5z a1 hb,a5z a2 hb,a5z a3 hb,a5z a4 hb,a5z cf hb,hb⟩
 have HS:=λW W' h1 (h2:Hid (Below W.heap.size W W'))=>HK W' (a2z (HF W h1) h2.out)
 have S1:=HK _ (a6z w2);have S2:=HK _ (Below.refl _ _)
 go_region_held3 (λW=>W.cell? ⟨w.heap.size,0,none⟩=some (.int .i64 t)∧W.cell? ⟨w.heap.size,1,none⟩=some (.int .i64 n)∧W.cell? ⟨w.heap.size,2,none⟩=some (.int .i64 sq)∧W.cell? ⟨w.heap.size,3,none⟩=some (.slice sp nl sc)∧W.cell? ⟨w.heap.size,4,none⟩=some (.slice dp bl dc)∧W.cell? ⟨fb,1,none⟩=some (.slice q ml mc)∧Hid (Below w2.heap.size w2 W))
  (first|exact S1|exact S2|assumption|exact HS _ _ (by assumption) (by assumption))
  (first|(go_at_call 190;refine acz (HA _ (HF _ (by assumption))) ?_;intro w3 HB3))
 have HW:Hid (Below w2.heap.size w2 _):=HF _ (by assumption)
 go_wp2
 go_ret
 exact⟨rfl,a2z HB.out HW.out⟩
end Go.Proofs.YthhakekbffembaaGreatDoor.Ck.Y.L

namespace Go.Proofs.YthhakekbffembaaGreatDoor.Ck.Y.L
open Go.RowKit Go.Maps Go.Lib
theorem RowV.shape {w:World} {base:Nat} {v:Value} {l:List VG} (h:RowV w base v l):∃p c,v=.slice p l.length c∧l.length≤c∧c≤maxLen:=by
 rcases h.2 with⟨rfl,h0⟩|⟨g,cap,cur,rfl,_,_,hn,hm,_⟩
 ·exact⟨none,0,by rw[h0],by omega,Nat.zero_le _⟩
 ·exact⟨_,cap,rfl,hn,hm⟩
theorem eLz (x:VG) (M:List VG):auz (x::M)=baz x++auz M:=rfl
theorem RowV.ext {w:World} {base:Nat} {v:Value} {n:Nat} {xs:List Value} {L:List VG} (h:w.ownsRow base 92 5 v n xs) (hn:n=L.length) (hx:xs=auz L):RowV w base v L:=by
 subst hn;subst hx;exact h
def egz (base:Nat) (v:Value) (M:List VG) (w:World) (e:Ending) (w':World):Prop:=∃v',e=.returned v'∧RowV w' base v' M∧w.grownBy w' v.ownBlock∧(v'.ownBlock=v.ownBlock∨v'.ownBlock=some w.heap.size)
theorem gUz (base vb:Nat) (v:Value) (L:List VG) (x:VG) (w:World) (h:RowV w base v L) (hl:L.length≤1000) (hb:base≤w.heap.size) (hvb:w.heap[vb]? =some (.cells (baz x).toArray 92 (0,0))):
  Calls Tryz.prog 157 #[v,.int .i64 (L.length:Nat),.slice (some ⟨vb,0,none⟩) 1 1] w (egz base v (L++[x]) w):=by
 obtain⟨i0,hi0,hz0,hz1,hz2⟩:=hBz
 obtain⟨p,c,rfl,hlc,hcm⟩:=h.shape
 obtain⟨v',w',hr,h2,h3,_,h5⟩:=run_append_own_at (P:=Tryz.prog) w base 86 86 92 i0 _ 5 72 Tryz.underlying86 hi0 hz0 hz1 hz2 rfl (by omega) _ L.length (auz L) h ⟨vb,0,none⟩ 1 1 (baz x) rfl
  (λj u hj=>by rw[Addr.add_lit,cellOf hvb];simpa using hj) (cjz _) (by unfold maxLen;omega) (by omega) hb
 have H:Hid (egz base (.slice p L.length c) (L++[x]) w (.returned v') w'):=⟨v',rfl,RowV.ext h2 (by simp) (by rw[bpz];simp[auz]),h3,h5⟩
 have hcm':c≤9223372036854775807:=by unfold maxLen at hcm;omega
 clear h hvb h2 h3 h5 hi0 hz0 hcm
 generalize L.length=n at*
 go_enter Tryz.func157,Tryz.ntmps157
 rcases p with _|⟨ab,ao,asp⟩
 ·go_wp2_with (at_builtin;refine Lib.wpList_append_run _ rfl _ _ _ _ rfl _ _ rfl rfl _ _ hr ?_)
  all_goals(go_ret;exact H.out)
 ·go_wp2_with (at_builtin;refine Lib.wpList_append_run _ rfl _ _ _ _ rfl _ _ rfl rfl _ _ hr ?_)
  all_goals(go_ret;exact H.out)
theorem cBz (w:World) (dT sT ty:TypeId) (g o dLen dCap:Nat) (a:Addr) (sLen sCap:Nat) (cur:Array Value) (t:TypeId) (cs:List Value) (k:Nat) (hu:Tryz.prog.underlying dT=some (.slice 92)) (hg:w.heap[g]? =some (.cells cur t (0,0))) (hk:Nat.min sLen dLen=k) (hn:cs.length=k*5) (hsrc:∀j v,cs[j]? =some v→w.cell? (a.add j)=some v) (hfit:o+cs.length≤cur.size) (h1:∀v∈cs,v.oneCell'=true):
  (Builtin.copy_ #[dT,sT] ty #[.slice (some ⟨g,o,none⟩) dLen dCap,.slice (some a) sLen sCap]).run Tryz.prog w=
   .ok (goInt k) (w.setRow g (cur.toList.take o++cs++cur.toList.drop (o+cs.length)).toArray):=by
 have hl:=run_loadCells_list (P:=Tryz.prog) w a cs hsrc
 have hst:=run_storeCells_at Tryz.prog g o t cs 0 cur w hg (by simpa using hfit) h1
 obtain⟨i0,hi0,hz0,hz1,hz2⟩:=hBz
 rw[hn]at hl
 simp[Builtin.copy_,run_underlying hu,Builtin.lenOf,Builtin.firstCells,sizeOf,typeInfo,hi0,hz1,hk,hl,hst]
theorem gqz (w:World) (vb g la ca lb cb o:Nat) (cur ds:Array Value) (hne:vb≠g) (hvb:w.heap[vb]? =some (.cells ds 92 (0,0))) (hg:w.heap[g]? =some (.cells cur 92 (0,0))) (h0:cur.size≠0):
  (callFunc 191 #[.slice (some ⟨vb,0,none⟩) la ca,.slice (some ⟨g,o,none⟩) lb cb]).run Tryz.prog w=.ok (.value (.bool false)) w:=by
 rw[run_callFunc_extern Tryz.func191 (by kernel_rfl) (by kernel_rfl) (by kernel_rfl) (e:=Extern.SlicesOverlaps.overlaps #[86,86] #[4]) (by kernel_rfl),
  Lib.run_overlaps_apart w 86 4 92 Tryz.underlying86 5 Tryz.sizeOf92 ⟨vb,0,none⟩ ⟨g,o,none⟩ la ca lb cb hne 92 92 ds.size cur.size (by unfold World.shape?;rw[hvb]) (by unfold World.shape?;rw[hg]) h0 (by simp[World.frozen?,hvb]) (by simp[World.frozen?,hvb])]
 rfl
theorem h9z {α:Type} (c X T R:List α) (i t:Nat) (hc:i+5≤c.length) (hX:X.length=5) (hT:T.length=t):((c.take (i+5)++T++R).take i++X++(c.take (i+5)++T++R).drop (i+5)).take (i+5+t)=c.take i++X++T:=by
 have h1:(c.take (i+5)++T++R).take i=c.take i:=by
  rw[List.append_assoc,List.take_append_of_le_length (by rw[List.length_take];omega),List.take_take,Nat.min_eq_left (by omega)]
 have h2:(c.take (i+5)++T++R).drop (i+5)=T++R:=by
  rw[List.append_assoc,List.drop_append_of_le_length (by rw[List.length_take];omega),List.drop_of_length_le (by rw[List.length_take];omega),List.nil_append]
 rw[h1,h2,← List.append_assoc,List.take_append_of_le_length (by simp;omega),List.take_of_length_le (by simp;omega)]
theorem fxz (base i vb g cap:Nat) (cur:Array Value) (L:List VG) (x:VG) (w:World) (hbg:base≤g) (hg:w.heap[g]? =some (.cells cur 92 (0,0))) (hm:cap≤maxLen) (hs:cur.size=cap*5) (ht:cur.toList.take (L.length*5)=auz L) (hi:i<L.length) (hl:L.length≤1000) (hroom:L.length+1≤cap) (hvb:w.heap[vb]? =some (.cells (baz x).toArray 92 (0,0))) (hne:vb≠g):
  Calls Tryz.prog 157 #[.slice (some ⟨g,0,none⟩) L.length cap,.int .i64 (i:Nat),.slice (some ⟨vb,0,none⟩) 1 1] w (egz base (.slice (some ⟨g,0,none⟩) L.length cap) (L.take i++x::L.drop i) w):=by
 have hov:=λlb cb=>gqz w vb g 1 1 lb cb ((i+1)*5) cur _ hne hvb hg (by omega)
 obtain⟨n,hn⟩:∃n,n=L.length:=⟨_,rfl⟩
 have hcur:cur.toList.length=cap*5:=by rw[Array.length_toList,hs]
 have hdr:(auz (L.drop i)).length=(n-i)*5:=by rw[b4z,List.length_drop,hn]
 have hcp1:∀dc sc,(Builtin.copy_ #[86,86] 3 #[.slice (some ⟨g,(i+1)*5,none⟩) (n-i) dc,.slice (some ⟨g,i*5,none⟩) (n+1-i) sc]).run Tryz.prog w.drew=_:=λdc sc=>
  cBz w.drew 86 86 3 g ((i+1)*5) (n-i) dc ⟨g,i*5,none⟩ (n+1-i) sc cur 92 (auz (L.drop i)) (n-i) Tryz.underlying86 hg (by simp only[Nat.min_def];split<;>omega) hdr
   (λj v hj=>by
    rw[Addr.add_lit]
    have hj':=(List.getElem?_eq_some_iff.1 hj).1
    rw[hdr]at hj'
    refine(cellOf hg (i*5+j)).trans ?_
    rw[← Array.getElem?_toList]
    have:(cur.toList.take (L.length*5))[i*5+j]? =some v:=by
     rw[ht,← List.getElem?_drop,cyz];exact hj
    rw[List.getElem?_take]at this
    split at this
    ·exact this
    ·cases this) (by rw[hdr,hs];omega) (eaz _)
 obtain⟨A1,hA1⟩:∃A1,A1=(cur.toList.take ((i+1)*5)++auz (L.drop i)++cur.toList.drop ((i+1)*5+(auz (L.drop i)).length)).toArray:=⟨_,rfl⟩
 rw[← hA1]at hcp1
 have hA1s:A1.size=cap*5:=by
  rw[hA1,← Array.length_toList];simp[hdr,hs];omega
 obtain⟨W1,hW1⟩:∃W1,W1=w.drew.setRow g A1:=⟨_,rfl⟩
 rw[← hW1]at hcp1
 have hg1:W1.heap[g]? =some (.cells A1 92 (0,0)):=by rw[hW1];exact setRow_heap _ _ cur _ 92 (0,0) hg
 have hv1:W1.heap[vb]? =some (.cells (baz x).toArray 92 (0,0)):=by rw[hW1,setRow_other _ _ _ _ hne];exact hvb
 have hcp2:∀dc,(Builtin.copy_ #[86,86] 3 #[.slice (some ⟨g,i*5,none⟩) (n+1-i) dc,.slice (some ⟨vb,0,none⟩) 1 1]).run Tryz.prog W1=_:=λdc=>
  cBz W1 86 86 3 g (i*5) (n+1-i) dc ⟨vb,0,none⟩ 1 1 A1 92 (baz x) 1 Tryz.underlying86 hg1 (by simp only[Nat.min_def];split<;>omega) rfl
   (λj v hj=>by rw[Addr.add_lit];refine(cellOf hv1 (0+j)).trans ?_;rw[Nat.zero_add];simpa using hj) (by rw[hA1s];simp[baz];omega) (cjz _)
 obtain⟨A2,hA2⟩:∃A2,A2=(A1.toList.take (i*5)++baz x++A1.toList.drop (i*5+(baz x).length)).toArray:=⟨_,rfl⟩
 rw[← hA2]at hcp2
 have H:Hid (egz base (.slice (some ⟨g,0,none⟩) n cap) (L.take i++x::L.drop i) w (.returned (.slice (some ⟨g,0,none⟩) (n+1) cap)) (W1.setRow g A2)):=by
  refine⟨_,rfl, ?_,⟨?_, ?_, ?_, ?_, ?_⟩,.inl rfl⟩
  ·have hlen:(L.take i++x::L.drop i).length=n+1:=by rw[hn];simp;omega
   refine⟨b4z _,.inr ⟨g,cap,A2,by rw[hlen],hbg,setRow_heap _ _ A1 _ 92 (0,0) hg1,by omega,hm, ?_, ?_⟩⟩
   ·rw[hA2]
    have:A1.toList.length=cap*5:=by rw[Array.length_toList,hA1s]
    simp[baz];omega
   ·rw[hlen,hA2,hA1,List.toList_toArray,List.toList_toArray]
    have e:=h9z cur.toList (baz x) (auz (L.drop i)) (cur.toList.drop ((i+1)*5+(auz (L.drop i)).length)) (i*5) ((n-i)*5) (by omega) rfl hdr
    rw[show i*5+5=(i+1)*5 by omega,show(i+1)*5+(n-i)*5=(n+1)*5 by omega]at e
    rw[show i*5+(baz x).length=(i+1)*5 by simp[baz];omega,e,bpz,eLz,← c8z,← ht,List.take_take,Nat.min_eq_left (by omega),List.append_assoc]
  ·rw[hW1];rfl
  ·rw[hW1];rfl
  ·rw[hW1];rfl
  ·rw[hW1];simp
  ·intro k hk hkg
   have:k≠g:=λe=>hkg (by rw[e];rfl)
   rw[setRow_other _ _ _ _ this,hW1,setRow_other _ _ _ _ this];rfl
 rw[← hn]
 rw[← hn]at hi hl hroom
 have hcm':cap≤9223372036854775807:=by unfold maxLen at hm;omega
 clear hg hs ht hvb hcur hdr hA1 hA1s hg1 hv1 hA2 hW1 hm hn
 go_enter Tryz.func157,Tryz.ntmps157
 go_wp2_with (simp only[hov])
 go_region
 go_wp2
 go_ret
 exact H.out
theorem ibz {α:Type} (R X T:List α) (i t:Nat) (hR:i+5+t≤R.length) (hX:X.length=5) (hT:T.length=t):
  ((R.take i++X++R.drop (i+5)).take (i+5)++T++(R.take i++X++R.drop (i+5)).drop (i+5+t)).take (i+5+t)=R.take i++X++T:=by
 have h1:(R.take i++X++R.drop (i+5)).take (i+5)=R.take i++X:=by
  rw[List.take_append_of_le_length (by simp;omega),List.take_of_length_le (by simp;omega)]
 rw[h1,List.take_append_of_le_length (by simp;omega),List.take_of_length_le (by simp;omega)]
theorem gxz (base i vb g cap:Nat) (cur:Array Value) (L:List VG) (x:VG) (w:World) (hbw:base≤w.heap.size) (hg:w.heap[g]? =some (.cells cur 92 (0,0))) (hm:cap≤maxLen) (hs:cur.size=cap*5) (ht:cur.toList.take (L.length*5)=auz L) (hi:i<L.length) (hl:L.length≤1000) (hnc:L.length≤cap) (hroom:cap<L.length+1) (hvb:w.heap[vb]? =some (.cells (baz x).toArray 92 (0,0))):
  Calls Tryz.prog 157 #[.slice (some ⟨g,0,none⟩) L.length cap,.int .i64 (i:Nat),.slice (some ⟨vb,0,none⟩) 1 1] w (egz base (.slice (some ⟨g,0,none⟩) L.length cap) (L.take i++x::L.drop i) w):=by
 obtain⟨i0,hi0,hz0,hz1,hz2⟩:=hBz
 obtain⟨n,hn⟩:∃n,n=L.length:=⟨_,rfl⟩
 have hcur:cur.toList.length=cap*5:=by rw[Array.length_toList,hs]
 have hdr:(auz (L.drop i)).length=(n-i)*5:=by rw[b4z,List.length_drop,hn]
 have hta:(auz (L.take i)).length=i*5:=by rw[b4z,List.length_take];omega
 have hcell:∀(W:World) (k j:Nat) (v:Value),W.heap[g]? =some (.cells cur 92 (0,0))→(auz (L.drop k))[j]? =some v→W.cell? ⟨g,k*5+j,none⟩=some v:=λW k j v hW hj=>by
  refine(cellOf hW (k*5+j)).trans ?_
  rw[← Array.getElem?_toList]
  have:(cur.toList.take (L.length*5))[k*5+j]? =some v:=by
   rw[ht,← List.getElem?_drop,cyz];exact hj
  rw[List.getElem?_take]at this
  split at this
  ·exact this
  ·cases this
 have hold:(Builtin.firstCells i0.size i (.slice (some ⟨g,0,none⟩) i cap)).run Tryz.prog w.drew=.ok (auz (L.take i)).toArray w.drew:=by
  rw[hz1]
  refine run_firstCells_some w.drew 5 i ⟨g,0,none⟩ i cap (auz (L.take i)) hta (λj v hj=> ?_)
  rw[Addr.add_lit]
  have:=hcell w.drew 0 j v hg (by
   rw[← c8z,List.getElem?_take]at hj
   split at hj
   ·exact hj
   ·cases hj)
  rwa [Nat.zero_mul]at this
 have hzr:=Lib.run_append_grow_zeros (P:=Tryz.prog) w 86 3 86 92 i0 _ .i64 .i64 Tryz.underlying86 (by kernel_rfl) hi0 hz0 (some ⟨g,0,none⟩) i cap (auz (L.take i)) hold (n+1-i) (by omega) (by omega) (by omega) (by omega) (by rw[hz2];omega)
  (by rw[hz2,show i+(n+1-i)=n+1 by omega];exact growslice_fits (by omega) (by omega))
 rw[show i+(n+1-i)=n+1 by omega]at hzr
 have hkk:(n:Int)+1-(i:Int)=((n+1-i:Nat):Int):=by omega
 rw[← hkk]at hzr
 obtain⟨G,hG⟩:∃G,G=grownCap w (n+1) cap 92:=⟨_,rfl⟩
 have hGn:n+1≤G:=by rw[hG];exact grownCap_ge w _ _ _
 have hGm:G≤maxLen:=by rw[hG];exact grownCap_le_maxLen w _ _ _ (by unfold maxLen;omega)
 rw[← hG]at hzr
 obtain⟨R,hR⟩:∃R:Array Value,R=(auz (L.take i)).toArray++Builtin.zeroCells (Value.agg #[.int .i64 0,.int .i64 0,.int .i64 0,.slice none 0 0,.slice none 0 0]).cells (n+1-i)++Builtin.zeroCells (Value.agg #[.int .i64 0,.int .i64 0,.int .i64 0,.slice none 0 0,.slice none 0 0]).cells (G-(n+1)):=⟨_,rfl⟩
 rw[← hR]at hzr
 have hRs:R.size=G*5:=by
  rw[hR]
  simp only[Array.size_append,size_zeroCells,List.size_toArray,hta]
  have:(Value.agg #[.int .i64 0,.int .i64 0,.int .i64 0,.slice none 0 0,.slice none 0 0]).cells.size=5:=rfl
  rw[this];omega
 have hRt:R.toList.take (i*5)=auz (L.take i):=by
  rw[hR]
  simp only[Array.toList_append,List.append_assoc]
  rw[List.take_append_of_le_length (by rw[hta];omega),List.take_of_length_le (by rw[hta];omega)]
 obtain⟨N,hN⟩:∃N,w.heap.size=N:=⟨_,rfl⟩
 obtain⟨W1,hW1⟩:∃W1,W1=w.drew.alloc (.cells R 92):=⟨_,rfl⟩
 rw[← hW1,hN]at hzr
 have hgl:g<N:=by rw[← hN];exact block_lt hg
 have hvl:vb<N:=by rw[← hN];exact block_lt hvb
 have hN1:W1.heap[N]? =some (.cells R 92 (0,0)):=by rw[hW1,← hN];exact heap_alloc_new w.drew _
 have hold1:∀k,k<N→W1.heap[k]? =w.heap[k]? :=λk hk=>by rw[hW1];exact heap_alloc_old w.drew _ (by rw[← hN]at hk;exact hk)
 have hcpA:∀dc,(Builtin.copy_ #[86,86] 3 #[.slice (some ⟨N,i*5,none⟩) (n+1-i) dc,.slice (some ⟨vb,0,none⟩) 1 1]).run Tryz.prog W1=_:=λdc=>
  cBz W1 86 86 3 N (i*5) (n+1-i) dc ⟨vb,0,none⟩ 1 1 R 92 (baz x) 1 Tryz.underlying86 hN1 (by simp only[Nat.min_def];split<;>omega) rfl
   (λj v hj=>by rw[Addr.add_lit];refine(cellOf ((hold1 vb hvl).trans hvb) (0+j)).trans ?_;rw[Nat.zero_add];simpa using hj) (by rw[hRs];simp[baz];omega) (cjz _)
 obtain⟨A1,hA1⟩:∃A1,A1=(R.toList.take (i*5)++baz x++R.toList.drop (i*5+(baz x).length)).toArray:=⟨_,rfl⟩
 rw[← hA1]at hcpA
 have hRl:R.toList.length=G*5:=by rw[Array.length_toList,hRs]
 have hA1s:A1.size=G*5:=by rw[hA1,← Array.length_toList];simp[baz];omega
 obtain⟨W2,hW2⟩:∃W2,W2=W1.setRow N A1:=⟨_,rfl⟩
 rw[← hW2]at hcpA
 have hN2:W2.heap[N]? =some (.cells A1 92 (0,0)):=by rw[hW2];exact setRow_heap _ _ R _ 92 (0,0) hN1
 have hold2:∀k,k<N→W2.heap[k]? =w.heap[k]? :=λk hk=>by rw[hW2,setRow_other _ _ _ _ (by omega)];exact hold1 k hk
 have hcpB:∀dc sc,(Builtin.copy_ #[86,86] 3 #[.slice (some ⟨N,(i+1)*5,none⟩) (n-i) dc,.slice (some ⟨g,i*5,none⟩) (n-i) sc]).run Tryz.prog W2.drew=_:=λdc sc=>
  cBz W2.drew 86 86 3 N ((i+1)*5) (n-i) dc ⟨g,i*5,none⟩ (n-i) sc A1 92 (auz (L.drop i)) (n-i) Tryz.underlying86 hN2 (by simp only[Nat.min_def];split<;>omega) hdr
   (λj v hj=>by rw[Addr.add_lit];exact hcell W2.drew i j v ((hold2 g hgl).trans hg) hj) (by rw[hdr,hA1s];omega) (eaz _)
 obtain⟨A2,hA2⟩:∃A2,A2=(A1.toList.take ((i+1)*5)++auz (L.drop i)++A1.toList.drop ((i+1)*5+(auz (L.drop i)).length)).toArray:=⟨_,rfl⟩
 rw[← hA2]at hcpB
 have H:Hid (egz base (.slice (some ⟨g,0,none⟩) n cap) (L.take i++x::L.drop i) w (.returned (.slice (some ⟨N,0,none⟩) (n+1) G)) (W2.drew.setRow N A2)):=by
  have hsz:w.heap.size≤(W2.drew.setRow N A2).heap.size:=by rw[hW2,hW1];simp
  refine⟨_,rfl, ?_,⟨?_, ?_, ?_,hsz, ?_⟩,.inr (by rw[hN];rfl)⟩
  ·have hlen:(L.take i++x::L.drop i).length=n+1:=by rw[hn];simp;omega
   refine⟨b4z _,.inr ⟨N,G,A2,by rw[hlen],by omega,setRow_heap _ _ A1 _ 92 (0,0) hN2,by omega,hGm, ?_, ?_⟩⟩
   ·rw[hA2]
    have:A1.toList.length=G*5:=by rw[Array.length_toList,hA1s]
    simp[hdr];omega
   ·rw[hlen,hA2,hA1,List.toList_toArray,List.toList_toArray,hdr]
    have e:=ibz R.toList (baz x) (auz (L.drop i)) (i*5) ((n-i)*5) (by omega) rfl hdr
    rw[show i*5+5=(i+1)*5 by omega,show(i+1)*5+(n-i)*5=(n+1)*5 by omega]at e
    rw[show i*5+(baz x).length=(i+1)*5 by simp[baz];omega,show(i+1)*5+(n-i)*5=(n+1)*5 by omega,e,bpz,eLz,hRt,List.append_assoc]
  ·rw[hW2,hW1];rfl
  ·rw[hW2,hW1];rfl
  ·rw[hW2,hW1];rfl
  ·intro k hk _
   rw[setRow_other _ _ _ _ (by omega)]
   exact hold2 k (by omega)
 rw[← hn]
 rw[← hn]at hi hl hroom hnc
 have hcm':cap≤9223372036854775807:=by unfold maxLen at hm;omega
 have hGm':G≤9223372036854775807:=by unfold maxLen at hGm;omega
 clear hg hs ht hvb hcur hdr hA1 hA1s hN1 hN2 hold1 hold2 hA2 hW1 hW2 hm hn hR hRs hRt hRl hcell hold hi0 hz0 hz1 hz2 hta hG hGm hN hkk
 go_enter Tryz.func157,Tryz.ntmps157
 go_wp2_with (at_builtin;refine Lib.wpList_append_run _ rfl _ _ _ _ rfl _ _ rfl rfl _ _ hzr ?_)
 go_region
 go_wp2
 go_ret
 exact H.out
theorem h5z (base i vb:Nat) (v:Value) (L:List VG) (x:VG) (w:World) (h:RowV w base v L) (hi:i≤L.length) (hl:L.length≤1000) (hb:base≤w.heap.size) (hvb:w.heap[vb]? =some (.cells (baz x).toArray 92 (0,0))) (hne:v.ownBlock≠some vb):
  Calls Tryz.prog 157 #[v,.int .i64 (i:Nat),.slice (some ⟨vb,0,none⟩) 1 1] w (egz base v (L.take i++x::L.drop i) w):=by
 rcases Nat.eq_or_lt_of_le hi with rfl|hi'
 ·have:=gUz base vb v L x w h hl hb hvb
  rw[List.take_of_length_le (Nat.le_refl _),List.drop_of_length_le (Nat.le_refl _)]
  exact this
 ·rcases h.2 with⟨_,h0⟩|⟨g,cap,cur,rfl,hbg,hg,hn,hm,hs,ht⟩
  ·omega
  ·by_cases hroom:L.length+1≤cap
   ·exact fxz base i vb g cap cur L x w hbg hg hm hs ht hi' hl hroom hvb (λe=>hne (by rw[e];rfl))
   ·exact gxz base i vb g cap cur L x w hb hg hm hs ht hi' hl hn (by omega) hvb
end Go.Proofs.YthhakekbffembaaGreatDoor.Ck.Y.L

namespace Go.Proofs.YthhakekbffembaaGreatDoor.Ck.Y.L
open Go.RowKit Go.Maps Go.Lib
abbrev bhv (fb:Nat):Value:=.func (.func 154) #[.pointer (some ⟨fb,0,none⟩)] #[]
def SeenF (w:World) (fb:Nat) (sn:List Int):Prop:=∃q mc,w.cell? ⟨fb,1,none⟩=some (.slice q sn.length mc)∧Cd.Lies w q (sn.map Cd.iv)
theorem SeenF.below {w w':World} {fb:Nat} {sn:List Int} (h:SeenF w fb sn) (hb:Below w.heap.size w w'):SeenF w' fb sn:=by
 obtain⟨q,mc,h1,h2⟩:=h
 exact⟨q,mc,a5z h1 hb,Cd.below_lies hb h2⟩
theorem SeenF.call {w:World} {fb:Nat} {sn:List Int} (h:SeenF w fb sn) (x:VG):Calls Tryz.prog 154 #[.pointer (some ⟨fb,0,none⟩),vgv x] w λe w'=>e=.returned (.bool (aDz x.sq x.n sn))∧Below w.heap.size w w':=by
 obtain⟨q,mc,h1,h2⟩:=h
 exact fyz x fb q sn mc w h1 h2
theorem RowV.caps {w:World} {base:Nat} {v:Value} {l:List VG} (h:RowV w base v l):∃p c,v=.slice p l.length c∧∀(i:Nat) (x:VG),l[i]? =some x→∃g,p=some ⟨g,0,none⟩∧w.cell? ⟨g,i*5,none⟩=some (.int .i64 x.t)∧w.cell? ⟨g,i*5+1,none⟩=some (.int .i64 x.n)∧w.cell? ⟨g,i*5+2,none⟩=some (.int .i64 x.sq)∧w.cell? ⟨g,i*5+3,none⟩=some (.slice x.sp x.ns.length x.sc)∧w.cell? ⟨g,i*5+4,none⟩=some (.slice x.dp x.bs.length x.dc):=by
 rcases h.2 with⟨rfl,h0⟩|⟨g,cap,cur,rfl,hb,hg,hn,hm,hs,ht⟩
 ·exact⟨none,0,by rw[h0],λi x hx=>by have:=List.eq_nil_of_length_eq_zero h0;subst this;simp at hx⟩
 ·exact⟨_,cap,rfl,λi x hx=>⟨g,rfl,RowV.cells h hx⟩⟩
theorem l0z (fb:Nat) (sn:List Int) (base:Nat) (v:Value) (L:List VG) (w:World) (hr:RowV w base v L) (hl:L.length≤1000) (hf:SeenF w fb sn) (hp:∀x∈L,aDz x.sq x.n sn=false):
  Calls Tryz.prog 189 #[v,bhv fb] w λe w'=>e=.returned (.int .i64 (-1))∧Below w.heap.size w w':=by
 obtain⟨p,c,rfl,_⟩:=hr.caps
 have HR:=a0z hr
 have HF:=a0z hf
 have HP:=a0z hp
 clear hr hf hp
 go_enter Tryz.func189,Tryz.ntmps189
 go_wp2
 go_loopw [8] (λii wr=>∃i:Nat,ii=.int .i64 i∧i≤L.length∧Hid (Below w.heap.size w wr)) (λii _=>L.length-(intOf ii).toNat)
 case atStart=>exact⟨0,rfl,by omega,Below.refl _ _⟩
 case round=>
  obtain⟨i,rfl,hi,HB⟩:=hrel
  by_cases hlt:i<L.length
  ·have hltI:(i:Int)<L.length:=by omega
   obtain⟨x,hx⟩:∃x,L[i]? =some x:=⟨_,List.getElem?_eq_getElem hlt⟩
   obtain⟨p',c',e',hc⟩:=(HR.out.below HB.out).caps
   cases e'
   obtain⟨g,rfl,d0,d1,d2,d3,d4⟩:=hc i x hx
   have HC:Hid (∀W,Below wr.heap.size wr W→Calls Tryz.prog 154 #[.pointer (some ⟨fb,0,none⟩),vgv x] W λe w'=>e=.returned (.bool false)∧Below W.heap.size W w'):=λW hW=>by
    have:=((HF.out.below HB.out).below hW).call x
    rwa [HP.out x (List.mem_of_getElem? hx)]at this
   clear hc hx
   obtain⟨t,n,sq,ns,sp,sc,bs,dp,dc⟩:=x
   simp only[vgv,vgC]at*
   generalize ns.length=nl at*
   generalize bs.length=bl at*
   go_wp2_with (go_at_call 154;refine acz (HC.out _ (Below.refl _ _)) ?_;intro w2 HB2)
   go_roundw
   case rel=>exact⟨i+1,by go_num,by omega,a2z HB.out HB2.out⟩
   case measure=>simp[intOf];omega
  ·obtain rfl:i=L.length:=by omega
   go_wp2
   go_ret
   exact⟨rfl,HB.out⟩
theorem oez (fb:Nat) (sn:List Int) (base:Nat) (v:Value) (L:List VG) (k:Nat) (w:World) (hr:RowV w base v L) (hl:L.length≤1000) (hf:SeenF w fb sn) (hk:k<L.length) (hp:∀j x,j<k→L[j]? =some x→aDz x.sq x.n sn=false) (hpk:∀x,L[k]? =some x→aDz x.sq x.n sn=true):
  Calls Tryz.prog 189 #[v,bhv fb] w λe w'=>e=.returned (.int .i64 k)∧Below w.heap.size w w':=by
 obtain⟨p,c,rfl,_⟩:=hr.caps
 have HR:=a0z hr
 have HF:=a0z hf
 have HP:Hid ((∀j x,j<k→L[j]? =some x→aDz x.sq x.n sn=false)∧∀x,L[k]? =some x→aDz x.sq x.n sn=true):=⟨hp,hpk⟩
 clear hr hf hp hpk
 go_enter Tryz.func189,Tryz.ntmps189
 go_wp2
 go_loopw [8] (λii wr=>∃i:Nat,ii=.int .i64 i∧i≤k∧Hid (Below w.heap.size w wr)) (λii _=>L.length-(intOf ii).toNat)
 case atStart=>exact⟨0,rfl,by omega,Below.refl _ _⟩
 case round=>
  obtain⟨i,rfl,hi,HB⟩:=hrel
  have hlt:i<L.length:=by omega
  have hltI:(i:Int)<L.length:=by omega
  obtain⟨x,hx⟩:∃x,L[i]? =some x:=⟨_,List.getElem?_eq_getElem hlt⟩
  obtain⟨p',c',e',hc⟩:=(HR.out.below HB.out).caps
  cases e'
  obtain⟨g,rfl,d0,d1,d2,d3,d4⟩:=hc i x hx
  have hcall:∀W,Below wr.heap.size wr W→Calls Tryz.prog 154 #[.pointer (some ⟨fb,0,none⟩),vgv x] W λe w'=>e=.returned (.bool (aDz x.sq x.n sn))∧Below W.heap.size W w':=λW hW=>((HF.out.below HB.out).below hW).call x
  by_cases hik:i=k
  ·rw[HP.out.2 x (by rw[← hik];exact hx)]at hcall
   have HC:=(show Hid _ from hcall)
   clear hc hx hcall
   have HK:=a0z hik
   clear hik
   obtain⟨t,n,sq,ns,sp,sc,bs,dp,dc⟩:=x
   simp only[vgv,vgC]at*
   generalize ns.length=nl at*
   generalize bs.length=bl at*
   go_wp2_with (go_at_call 154;refine acz (HC.out _ (Below.refl _ _)) ?_;intro w2 HB2)
   go_ret
   rw[HK.out]
   exact⟨rfl,a2z HB.out HB2.out⟩
  ·rw[HP.out.1 i x (by omega) hx]at hcall
   have HC:=(show Hid _ from hcall)
   clear hc hx hcall
   obtain⟨t,n,sq,ns,sp,sc,bs,dp,dc⟩:=x
   simp only[vgv,vgC]at*
   generalize ns.length=nl at*
   generalize bs.length=bl at*
   go_wp2_with (go_at_call 154;refine acz (HC.out _ (Below.refl _ _)) ?_;intro w2 HB2)
   go_roundw
   case rel=>exact⟨i+1,by go_num,by omega,a2z HB.out HB2.out⟩
   case measure=>simp[intOf];omega
end Go.Proofs.YthhakekbffembaaGreatDoor.Ck.Y.L

namespace Go.Proofs.YthhakekbffembaaGreatDoor.Ck.Y.L
open Go.RowKit Go.Maps Go.Lib
variable {sn:List Int} {M:List VG} {i j:Nat}
def aJz (sn:List Int) (x:VG):Bool:= !aDz x.sq x.n sn
def mNz (base:Nat) (v:Value) (M:List VG) (w:World) (e:Ending) (w':World):Prop:=∃v',e=.returned v'∧RowV w' base v' M∧Only (λb=>v.ownBlock=some b) w w'∧v'.ownBlock=v.ownBlock
theorem lrz (fb:Nat) (sn:List Int) (base:Nat) (v:Value) (L:List VG) (w:World) (hr:RowV w base v L) (hl:L.length≤1000) (hf:SeenF w fb sn) (hp:∀x∈L,aDz x.sq x.n sn=false):
  Calls Tryz.prog 153 #[v,bhv fb] w (mNz base v (L.filter (aJz sn)) w):=by
 have e1:L.filter (aJz sn)=L:=List.filter_eq_self.2 λx hx=>by unfold aJz;rw[hp x hx];rfl
 rw[e1]
 have c1:=l0z fb sn base v L w hr hl hf hp
 obtain⟨p,c,rfl,_⟩:=hr.caps
 have HR:=a0z hr
 clear hr hf hp e1 hl
 generalize L.length=n at*
 go_enter Tryz.func153,Tryz.ntmps153
 go_wp2_with (go_at_call 189;refine acz c1 ?_;clear c1;intro w2 HB2)
 go_ret
 exact⟨_,rfl,HR.out.below HB2.out,Below.only HB2.out _,rfl⟩
structure Sift (sn:List Int) (L M:List VG) (i j:Nat):Prop where
 len:M.length=L.length
 low:M.take i=(L.take j).filter (aJz sn)
 high:M.drop j=L.drop j
 lt:i<j
theorem Sift.at {L:List VG} (h:Sift sn L M i j):M[j]? =L[j]? :=by
 have:=congrArg (λl=>l[0]?) h.high
 simpa using this
theorem Sift.keep {L:List VG} {x:VG} (h:Sift sn L M i j) (hx:L[j]? =some x) (hk:aJz sn x=true):Sift sn L (M.set i x) (i+1) (j+1):=by
 have hj:=(List.getElem?_eq_some_iff.1 hx).1
 have hlt:=h.lt
 have hlen:=h.len
 refine⟨by simp[h.len], ?_, ?_,by omega⟩
 ·rw[List.take_add_one,List.take_set_of_le (Nat.le_refl i),h.low,List.take_add_one,hx,List.filter_append]
  simp[hk,show i<M.length by omega]
 ·rw[List.drop_set_of_lt (by omega)]
  have:=congrArg (List.drop 1) h.high
  simpa[List.drop_drop,Nat.add_comm]using this
theorem Sift.drop {L:List VG} {x:VG} (h:Sift sn L M i j) (hx:L[j]? =some x) (hk:aJz sn x=false):Sift sn L M i (j+1):=by
 refine⟨h.len, ?_, ?_,by have:=h.lt;omega⟩
 ·rw[h.low,List.take_add_one,hx,List.filter_append]
  simp[hk]
 ·have:=congrArg (List.drop 1) h.high
  simpa[List.drop_drop,Nat.add_comm]using this
theorem Sift.start {L:List VG} {k:Nat} (hp:∀j x,j<k→L[j]? =some x→aDz x.sq x.n sn=false) (hpk:∀x,L[k]? =some x→aDz x.sq x.n sn=true):Sift sn L L k (k+1):=by
 refine⟨rfl, ?_,rfl,by omega⟩
 rw[List.take_add_one,List.filter_append]
 have e1:(L.take k).filter (aJz sn)=L.take k:=List.filter_eq_self.2 λx hx=>by
  obtain⟨j,hj,e⟩:=List.getElem_of_mem hx
  rw[List.length_take]at hj
  unfold aJz
  rw[hp j x (by omega) (by rw[List.getElem?_eq_getElem (by omega),← e,List.getElem_take])];rfl
 rw[e1]
 cases hk:L[k]? with
 |none=>simp
 |some x=>simp[aJz,hpk x hk]
theorem Sift.done {L:List VG} (h:Sift sn L M i L.length):M.take i=L.filter (aJz sn):=by
 rw[h.low,List.take_length]
theorem jWz:∀k,(Builtin.zeroCells (Value.agg #[.int .i64 0,.int .i64 0,.int .i64 0,.slice none 0 0,.slice none 0 0]).cells k).size=k*5:=λk=>by rw[size_zeroCells];rfl
def zsV (k:Nat):List Value:=(Builtin.zeroCells (Value.agg #[.int .i64 0,.int .i64 0,.int .i64 0,.slice none 0 0,.slice none 0 0]).cells k).toList
theorem doz (k:Nat):(zsV k).length=k*5:=by unfold zsV;rw[Array.length_toList,jWz]
theorem noz (k:Nat):∀v∈zsV k,v.oneCell'=true:=by
 intro v hv
 unfold zsV at hv
 rw[Array.mem_toList_iff]at hv
 unfold Builtin.zeroCells at hv
 rw[Array.mem_map]at hv
 obtain⟨i,_,rfl⟩:=hv
 have key:∀r,r<5→((Value.agg #[.int .i64 0,.int .i64 0,.int .i64 0,.slice none 0 0,.slice none 0 0]).cells[r]!).oneCell'=true:=by
  intro r hr
  match r with
  |0|1|2|3|4=>rfl
  |r+5=>omega
 exact key _ (Nat.mod_lt _ (by decide))
theorem iIz (w:World) (ty:TypeId) (g o k c:Nat) (cur:Array Value) (hg:w.heap[g]? =some (.cells cur 92 (0,0))) (hfit:o+k*5≤cur.size) (hk:0<k):
  (Builtin.clear_ #[86] ty #[.slice (some ⟨g,o,none⟩) k c]).run Tryz.prog w=.ok (.tuple #[]) (w.setRow g (cur.toList.take o++zsV k++cur.toList.drop (o+k*5)).toArray):=by
 have hst:=run_storeCells_at Tryz.prog g o 92 (zsV k) 0 cur w hg (by rw[doz];simpa using hfit) (noz k)
 rw[Nat.add_zero,doz]at hst
 obtain⟨k',rfl⟩:∃k',k=k'+1:=⟨k-1,by omega⟩
 have hz:(Builtin.zeroCells (Value.agg #[.int .i64 0,.int .i64 0,.int .i64 0,.slice none 0 0,.slice none 0 0]).cells (k'+1)).toList=zsV (k'+1):=rfl
 simp[Builtin.clear_,run_underlying Tryz.underlying86,Tryz.zeroValue92,hz,hst]
theorem bmz {S T:Nat→Prop} {w w':World} (h:Only S w w') (hs:∀b,S b→T b):Only T w w':=⟨h.os,h.tape,h.output,h.size,λk hk hn=>h.block k hk (λe=>hn (hs k e))⟩
theorem gDz (w:World) (g:Nat) (A:Array Value):Only (λb=>b=g) w (w.setRow g A):=⟨rfl,rfl,rfl,by simp,λk _ hk=>setRow_other w g k A hk⟩
theorem nTz (fb:Nat) (sn:List Int) (base g cap:Nat) (L:List VG) (k:Nat) (w:World) (hr:RowV w base (.slice (some ⟨g,0,none⟩) L.length cap) L) (hl:L.length≤1000) (hk:k<L.length) (hf:∀W,Only (λb=>b=g) w W→SeenF W fb sn) (hp:∀j x,j<k→L[j]? =some x→aDz x.sq x.n sn=false) (hpk:∀x,L[k]? =some x→aDz x.sq x.n sn=true):
  Calls Tryz.prog 153 #[.slice (some ⟨g,0,none⟩) L.length cap,bhv fb] w (mNz base (.slice (some ⟨g,0,none⟩) L.length cap) (L.filter (aJz sn)) w):=by
 have c1:=oez fb sn base _ L k w hr hl (hf w (Only.refl _ _)) hk hp hpk
 have HS0:Hid (Sift sn L L k (k+1)):=Sift.start hp hpk
 have HR:=a0z hr
 have HF:=a0z hf
 have hkI:¬(k:Int)= -1:=by omega
 have hcap:L.length≤cap∧cap≤maxLen:=by obtain⟨cur,_,_,_,h1,h2,_⟩:=hr.cur;exact⟨h1,h2⟩
 have hcap2:cap≤9223372036854775807:=by have:=hcap.2;unfold maxLen at this;omega
 have hcap1:=hcap.1
 clear hr hf hp hpk hcap
 go_enter Tryz.func153,Tryz.ntmps153
 go_wp2_with (go_at_call 189;refine acz c1 ?_;clear c1;intro w2 HB2)
 have H2:Hid (Only (λb=>b=g) w w2):=Below.only HB2.out _
 have HR2:Hid (RowV w2 base (.slice (some ⟨g,0,none⟩) L.length cap) L):=HR.out.below HB2.out
 clear HB2
 go_loopw [5,6] (λii jj wr=>∃(i j:Nat) (M:List VG),ii=.int .i64 i∧jj=.int .i64 j∧j≤L.length∧Hid (Sift sn L M i j)∧Hid (RowV wr base (.slice (some ⟨g,0,none⟩) L.length cap) M)∧Hid (Only (λb=>b=g) w wr)) (λ_ jj _=>L.length-(intOf jj).toNat)
 case atStart=>exact⟨k,k+1,L,rfl,by go_num,by omega,HS0,HR2,H2⟩
 case round=>
  obtain⟨i,j,M,rfl,rfl,hj,HS,HM,HO⟩:=hrel
  by_cases hlt:j<L.length
  ·have hltI:(j:Int)<L.length:=by omega
   obtain⟨x,hx⟩:∃x,L[j]? =some x:=⟨_,List.getElem?_eq_getElem hlt⟩
   obtain⟨d0,d1,d2,d3,d4⟩:=RowV.cells HM.out (HS.out.at.trans hx)
   have hcall:∀W,Below wr.heap.size wr W→Calls Tryz.prog 154 #[.pointer (some ⟨fb,0,none⟩),vgv x] W λe w'=>e=.returned (.bool (aDz x.sq x.n sn))∧Below W.heap.size W w':=λW hW=>((HF.out wr HO.out).below hW).call x
   have HX:=a0z hx
   clear hx
   have hbig:wr.heap.size≠g:=by
    obtain⟨cur,hb,_⟩:=HM.out.cur
    have:=block_lt hb
    omega
   have HG:=a0z hbig
   clear hbig
   cases hs:aDz x.sq x.n sn with
   |false=>
    rw[hs]at hcall
    have HKP:Hid (aJz sn x=true):=by show _=_;unfold aJz;rw[hs];rfl
    have HC:=(show Hid _ from hcall)
    have HMB:Hid (∀W,Below wr.heap.size wr W→RowV W base (.slice (some ⟨g,0,none⟩) L.length cap) M):=λW hW=>HM.out.below hW
    have HI:Hid (i<M.length):=by show i<_;have:=HS.out.lt;have:=HS.out.len;omega
    have hil:(i:Int)<L.length:=by have:=HS.out.lt;omega
    clear hcall hs
    obtain⟨t,n,sq,ns,sp,sc,bs,dp,dc⟩:=x
    simp only[vgv,vgC]at*
    generalize hnl:ns.length=nl at*
    generalize hbl:bs.length=bl at*
    have HLN:=a0z (agz hnl hbl)
    clear hnl hbl
    go_wp2_with (first|(go_at_call 154;refine acz (HC.out _ ?_) ?_;(exact(Below.refl _ _).alloc (Nat.le_refl _) _);intro w3 HB3;have q:=(HB3.out.block wr.heap.size (by simp)).trans (heap_alloc_new wr (.cells #[.int .i64 t,.int .i64 n,.int .i64 sq,.slice sp nl sc,.slice dp bl dc] 92));have H3:Hid (Below wr.heap.size wr w3):=a2z (a3z wr _).out HB3.out;have e0:w3.cell? ⟨wr.heap.size,0,none⟩=some (.int .i64 t):=cellOf q 0;have e1:w3.cell? ⟨wr.heap.size,1,none⟩=some (.int .i64 n):=cellOf q 1;have e2:w3.cell? ⟨wr.heap.size,2,none⟩=some (.int .i64 sq):=cellOf q 2;have e3:w3.cell? ⟨wr.heap.size,3,none⟩=some (.slice sp nl sc):=cellOf q 3;have e4:w3.cell? ⟨wr.heap.size,4,none⟩=some (.slice dp bl dc):=cellOf q 4;clear q d0 d1 d2 d3 d4)|(refine hbz rfl _ _ rfl base g L.length cap i M ⟨t,n,sq,ns,sp,sc,bs,dp,dc⟩ rfl (by rw[← HLN.out.1,← HLN.out.2];rfl) ⟨HMB.out _ H3.out,HI.out⟩ ?_;intro w4 H4))
    go_roundw
    case rel=>
     (repeat apply Exists.intro)
     exact⟨⟨i+1,j+1,M.set i ⟨t,n,sq,ns,sp,sc,bs,dp,dc⟩,by go_num,by go_num,by omega,HS.out.keep HX.out HKP.out,H4.out.1,(HO.out.next (Below.only H3.out _)).next H4.out.2.1⟩,rfl⟩
    case measure=>simp[intOf];omega
   |true=>
    rw[hs]at hcall
    have HKP:Hid (aJz sn x=false):=by show _=_;unfold aJz;rw[hs];rfl
    have HC:=(show Hid _ from hcall)
    clear hcall hs
    obtain⟨t,n,sq,ns,sp,sc,bs,dp,dc⟩:=x
    simp only[vgv,vgC]at*
    generalize hnl:ns.length=nl at*
    generalize hbl:bs.length=bl at*
    have HLN:=a0z (agz hnl hbl)
    clear hnl hbl
    go_wp2_with (go_at_call 154;refine acz (HC.out _ ?_) ?_;(exact(Below.refl _ _).alloc (Nat.le_refl _) _);intro w3 HB3;have q:=(HB3.out.block wr.heap.size (by simp)).trans (heap_alloc_new wr (.cells #[.int .i64 t,.int .i64 n,.int .i64 sq,.slice sp nl sc,.slice dp bl dc] 92));have H3:Hid (Below wr.heap.size wr w3):=a2z (a3z wr _).out HB3.out;have e0:w3.cell? ⟨wr.heap.size,0,none⟩=some (.int .i64 t):=cellOf q 0;have e1:w3.cell? ⟨wr.heap.size,1,none⟩=some (.int .i64 n):=cellOf q 1;have e2:w3.cell? ⟨wr.heap.size,2,none⟩=some (.int .i64 sq):=cellOf q 2;have e3:w3.cell? ⟨wr.heap.size,3,none⟩=some (.slice sp nl sc):=cellOf q 3;have e4:w3.cell? ⟨wr.heap.size,4,none⟩=some (.slice dp bl dc):=cellOf q 4;clear q d0 d1 d2 d3 d4)
    go_roundw
    case rel=>
     (repeat apply Exists.intro)
     exact⟨⟨i,j+1,M,rfl,by go_num,by omega,HS.out.drop HX.out HKP.out,HM.out.below H3.out,HO.out.next (Below.only H3.out _)⟩,rfl⟩
    case measure=>simp[intOf];omega
  ·obtain rfl:j=L.length:=by omega
   obtain⟨cur,hblk,hn,hb,h1,h2,h3,h4⟩:=HM.out.cur
   have hlen:=HS.out.len
   have hil:=HS.out.lt
   have hcl:=λty c=>iIz wr ty g (i*5) (L.length-i) c cur hblk (by rw[h3];omega) (by omega)
   have hzl:=doz (L.length-i)
   obtain⟨A,hA⟩:∃A,A=(cur.toList.take (i*5)++zsV (L.length-i)++cur.toList.drop (i*5+(L.length-i)*5)).toArray:=⟨_,rfl⟩
   rw[← hA]at hcl
   have H:Hid (mNz base (.slice (some ⟨g,0,none⟩) L.length cap) (L.filter (aJz sn)) w (.returned (.slice (some ⟨g,0,none⟩) i cap)) (wr.setRow g A)):=by
    have hdone:=HS.out.done
    have hfl:(L.filter (aJz sn)).length=i:=by rw[← hdone,List.length_take];omega
    refine⟨_,rfl,⟨b4z _,.inr ⟨g,cap,A,by rw[hfl],hb,setRow_heap _ _ cur _ 92 (0,0) hblk,by omega,h2, ?_, ?_⟩⟩,bmz (HO.out.next (gDz wr g A)) (λb hb=>by rw[hb];rfl),rfl⟩
    ·rw[hA]
     have:cur.toList.length=cap*5:=by rw[Array.length_toList,h3]
     simp[hzl];omega
    ·have hc:cur.toList.length=cap*5:=by rw[Array.length_toList,h3]
     rw[hfl,hA,List.toList_toArray,List.append_assoc,List.take_append_of_le_length (by rw[List.length_take];omega),List.take_take,Nat.min_self,← hdone]
     have:=congrArg (List.take (i*5)) h4
     rw[List.take_take,Nat.min_eq_left (by omega)]at this
     rw[this,c8z]
   have hic:i≤cap:=by omega
   have hii:i<L.length:=hil
   clear hblk h4 h3 hA hzl hlen hn
   go_wp2
   go_ret
   exact H.out
theorem ffz (sn:List Int):∀L:List VG,(∀x∈L,aDz x.sq x.n sn=false)∨∃k,k<L.length∧(∀j x,j<k→L[j]? =some x→aDz x.sq x.n sn=false)∧∀x,L[k]? =some x→aDz x.sq x.n sn=true
 |[]=>.inl (λx hx=>by simp at hx)
 |y::L=>by
  cases hy:aDz y.sq y.n sn with
  |true=>exact .inr ⟨0,by simp,λj x hj=>by omega,λx hx=>by simp at hx;rw[← hx];exact hy⟩
  |false=>
   rcases ffz sn L with h|⟨k,h1,h2,h3⟩
   ·exact .inl (λx hx=>by rcases List.mem_cons.1 hx with rfl|hx;exact hy;exact h x hx)
   ·refine .inr ⟨k+1,by simp;omega,λj x hj hx=> ?_,λx hx=>h3 x (by simpa using hx)⟩
    cases j with
    |zero=>simp at hx;rw[← hx];exact hy
    |succ j=>exact h2 j x (by omega) (by simpa using hx)
theorem nbz (fb:Nat) (sn:List Int) (base:Nat) (v:Value) (L:List VG) (w:World) (hr:RowV w base v L) (hl:L.length≤1000) (hf:∀W,Only (λb=>v.ownBlock=some b) w W→SeenF W fb sn):
  Calls Tryz.prog 153 #[v,bhv fb] w (mNz base v (L.filter (aJz sn)) w):=by
 rcases ffz sn L with h|⟨k,h1,h2,h3⟩
 ·exact lrz fb sn base v L w hr hl (hf w (Only.refl _ _)) h
 ·obtain⟨g,cap,cur,rfl,_⟩:=hr.form (by omega)
  exact nTz fb sn base g cap L k w hr hl h1 (λW hW=>hf W (bmz hW (λb hb=>by rw[hb];rfl))) h2 h3
end Go.Proofs.YthhakekbffembaaGreatDoor.Ck.Y.L

namespace Go.Proofs.YthhakekbffembaaGreatDoor.Ck.Y.L
open Go.RowKit Go.Maps Go.Lib
theorem anz (w:World) (n:Nat):Below w.heap.size w (w.drewN n):=⟨rfl,rfl,rfl,Nat.le_refl _,λ_ _=>rfl⟩
abbrev cmv:Value:=.func (.func 156) #[] #[]
def ltV (x y:VG):Prop:=lessB x.t x.n y.t y.n=true
def leV (x:VG) (t n:Int):Prop:=lessB x.t x.n t n=true
structure m2z (L:List VG) (t n:Int) (i:Nat):Prop where
 le:i≤L.length
 lo:∀k x,k<i→L[k]? =some x→leV x t n
 hi:∀k x,i≤k→L[k]? =some x→¬leV x t n
theorem fHz {x y:VG} {t n:Int} (h:ltV x y) (k:leV y t n):leV x t n:=by
 unfold ltV at h;unfold leV at*
 rw[lessB_true]at*;omega
theorem i2z (base:Nat) (v:Value) (L:List VG) (t n:Int) (w:World) (hr:RowV w base v L) (hl:L.length≤1000) (hs:L.Pairwise ltV):
  Calls Tryz.prog 155 #[v,idv t n,cmv] w λe w'=>∃(i:Nat) (r:Bool),e=.returned (.tuple #[.int .i64 i,.bool r])∧m2z L t n i∧Below w.heap.size w w':=by
 obtain⟨w0,hw0⟩:∃w0,w0=w.alloc (.cells #[.int .i64 t,.int .i64 n] 28):=⟨_,rfl⟩
 have hk:w0.heap[w.heap.size]? =some (.cells #[.int .i64 t,.int .i64 n] 28 (0,0)):=by rw[hw0];exact heap_alloc_new w _
 have hB:Below w.heap.size w w0:=by rw[hw0];exact a3z w _
 obtain⟨p,c,rfl,_⟩:=hr.caps
 have HR:Hid (RowV w0 base (.slice p L.length c) L):=hr.below hB
 have HPW:=a0z hs
 have HT:Hid (w0.cell? ⟨w.heap.size,0,none⟩=some (.int .i64 t)∧w0.cell? ⟨w.heap.size,1,none⟩=some (.int .i64 n)):=⟨cellOf hk 0,cellOf hk 1⟩
 have HB:=a0z hB
 have HW0:=a0z hw0
 clear hr hs hk hB hw0
 go_enter Tryz.func155,Tryz.ntmps155
 go_wp2
 rw[← HW0.out]
 go_loopw [9,10] (λii jj wr=>∃i j:Nat,i≤j∧j≤L.length∧ii=.int .i64 i∧jj=.int .i64 j∧Hid (Below w0.heap.size w0 wr∧(∀k x,k<i→L[k]? =some x→leV x t n)∧(∀k x,j≤k→L[k]? =some x→¬leV x t n))) (λii jj _=>(intOf jj).toNat-(intOf ii).toNat)
 case atStart=>exact⟨0,L.length,by omega,by omega,rfl,rfl,Below.refl _ _,(λk x hk=>by omega),(λk x hk hx=>by have:=(List.getElem?_eq_some_iff.1 hx).1;omega)⟩
 case round=>
  obtain⟨i,j,hij,hjn,rfl,rfl,HI⟩:=hrel
  have t0:=a5z HT.out.1 HI.out.1
  have t1:=a5z HT.out.2 HI.out.1
  by_cases hlt:i<j
  ·have hltI:(i:Int)<j:=by omega
   obtain⟨h,hh⟩:∃h,(i+j)/2=h:=⟨_,rfl⟩
   have hhI:((i:Int)+(j:Int))/2=(h:Nat):=by omega
   have hhn:h<L.length:=by omega
   have hhnI:(h:Int)<L.length:=by omega
   obtain⟨x,hx⟩:∃x,L[h]? =some x:=⟨_,List.getElem?_eq_getElem hhn⟩
   obtain⟨p',c',e',hc⟩:=(HR.out.below HI.out.1).caps
   cases e'
   obtain⟨g,rfl,d0,d1,d2,d3,d4⟩:=hc h x hx
   have hcall:∀W,Calls Tryz.prog 156 #[vgv x,idv t n] W λe w'=>e=.returned (.int .i64 (bdz x.t x.n t n))∧Below W.heap.size W w':=λW=>cez x t n W
   obtain⟨z,hz⟩:∃z,bdz x.t x.n t n=z:=⟨_,rfl⟩
   have HZ:Hid (decide (z<0)=lessB x.t x.n t n):=by show _=_;rw[← hz];exact cpz _ _ _ _
   have HX:=a0z (agz hx hh)
   rw[hz]at hcall
   clear hc hx hh hz
   by_cases hz0:z<0
   ·have HL:Hid (leV x t n):=by
     have:=HZ.out
     rw[decide_eq_true hz0]at this
     exact this.symm
    obtain⟨xt,xn,xq,ns,sp,sc,bs,dp,dc⟩:=x
    simp only[vgv,vgC]at*
    generalize ns.length=nl at*
    generalize bs.length=bl at*
    go_wp2_with fail
    have HF:∀W,(W.cell? ⟨g,h*5,none⟩=some (.int .i64 xt)∧W.cell? ⟨g,h*5+1,none⟩=some (.int .i64 xn)∧W.cell? ⟨g,h*5+2,none⟩=some (.int .i64 xq)∧W.cell? ⟨g,h*5+3,none⟩=some (.slice sp nl sc)∧W.cell? ⟨g,h*5+4,none⟩=some (.slice dp bl dc)∧W.cell? ⟨w.heap.size,0,none⟩=some (.int .i64 t)∧W.cell? ⟨w.heap.size,1,none⟩=some (.int .i64 n)∧Hid (Below wr.heap.size wr W))→Below wr.heap.size wr W:=λW hW=>hW.2.2.2.2.2.2.2.out
    have HK:∀W,Below wr.heap.size wr W→W.cell? ⟨g,h*5,none⟩=some (.int .i64 xt)∧W.cell? ⟨g,h*5+1,none⟩=some (.int .i64 xn)∧W.cell? ⟨g,h*5+2,none⟩=some (.int .i64 xq)∧W.cell? ⟨g,h*5+3,none⟩=some (.slice sp nl sc)∧W.cell? ⟨g,h*5+4,none⟩=some (.slice dp bl dc)∧W.cell? ⟨w.heap.size,0,none⟩=some (.int .i64 t)∧W.cell? ⟨w.heap.size,1,none⟩=some (.int .i64 n)∧Hid (Below wr.heap.size wr W):=λW hb=>⟨a5z d0 hb,a5z d1 hb,a5z d2 hb,a5z d3 hb,a5z d4 hb,a5z t0 hb,a5z t1 hb,hb⟩
    have HS:=λW W' h1 (h2:Hid (Below W.heap.size W W'))=>HK W' (a2z (HF W h1) h2.out)
    have S1:=HK _ (a6z wr);have S2:=HK _ (Below.refl _ _)
    go_region_held3 (λW=>W.cell? ⟨g,h*5,none⟩=some (.int .i64 xt)∧W.cell? ⟨g,h*5+1,none⟩=some (.int .i64 xn)∧W.cell? ⟨g,h*5+2,none⟩=some (.int .i64 xq)∧W.cell? ⟨g,h*5+3,none⟩=some (.slice sp nl sc)∧W.cell? ⟨g,h*5+4,none⟩=some (.slice dp bl dc)∧W.cell? ⟨w.heap.size,0,none⟩=some (.int .i64 t)∧W.cell? ⟨w.heap.size,1,none⟩=some (.int .i64 n)∧Hid (Below wr.heap.size wr W))
     (first|exact S1|exact S2|assumption|exact HS _ _ (by assumption) (by assumption))
     (first|(go_at_call 156;refine acz (hcall _) ?_;intro w3 HB3))
    have HB2:Hid (Below wr.heap.size wr _):=HF _ (by assumption)
    go_wp2_with fail
    go_roundw
    case rel=>exact⟨h+1,j,by omega,by omega,by go_num,rfl,a2z HI.out.1 HB2.out,(λk y hk hy=>by
      by_cases e:k=h
      ·subst e;rw[HX.out.1]at hy;cases hy;exact HL.out
      ·have h1:=List.pairwise_iff_getElem.1 HPW.out k h (List.getElem?_eq_some_iff.1 hy).1 (List.getElem?_eq_some_iff.1 HX.out.1).1 (by omega)
       rw[(List.getElem?_eq_some_iff.1 hy).2,(List.getElem?_eq_some_iff.1 HX.out.1).2]at h1
       exact fHz h1 HL.out),HI.out.2.2⟩
    case measure=>simp[intOf];omega
   ·have HL:Hid (¬leV x t n):=by
     have:=HZ.out
     rw[decide_eq_false hz0]at this
     intro hp
     unfold leV at hp
     rw[hp]at this
     cases this
    obtain⟨xt,xn,xq,ns,sp,sc,bs,dp,dc⟩:=x
    simp only[vgv,vgC]at*
    generalize ns.length=nl at*
    generalize bs.length=bl at*
    go_wp2_with fail
    have HF:∀W,(W.cell? ⟨g,h*5,none⟩=some (.int .i64 xt)∧W.cell? ⟨g,h*5+1,none⟩=some (.int .i64 xn)∧W.cell? ⟨g,h*5+2,none⟩=some (.int .i64 xq)∧W.cell? ⟨g,h*5+3,none⟩=some (.slice sp nl sc)∧W.cell? ⟨g,h*5+4,none⟩=some (.slice dp bl dc)∧W.cell? ⟨w.heap.size,0,none⟩=some (.int .i64 t)∧W.cell? ⟨w.heap.size,1,none⟩=some (.int .i64 n)∧Hid (Below wr.heap.size wr W))→Below wr.heap.size wr W:=λW hW=>hW.2.2.2.2.2.2.2.out
    have HK:∀W,Below wr.heap.size wr W→W.cell? ⟨g,h*5,none⟩=some (.int .i64 xt)∧W.cell? ⟨g,h*5+1,none⟩=some (.int .i64 xn)∧W.cell? ⟨g,h*5+2,none⟩=some (.int .i64 xq)∧W.cell? ⟨g,h*5+3,none⟩=some (.slice sp nl sc)∧W.cell? ⟨g,h*5+4,none⟩=some (.slice dp bl dc)∧W.cell? ⟨w.heap.size,0,none⟩=some (.int .i64 t)∧W.cell? ⟨w.heap.size,1,none⟩=some (.int .i64 n)∧Hid (Below wr.heap.size wr W):=λW hb=>⟨a5z d0 hb,a5z d1 hb,a5z d2 hb,a5z d3 hb,a5z d4 hb,a5z t0 hb,a5z t1 hb,hb⟩
    have HS:=λW W' h1 (h2:Hid (Below W.heap.size W W'))=>HK W' (a2z (HF W h1) h2.out)
    have S1:=HK _ (a6z wr);have S2:=HK _ (Below.refl _ _)
    go_region_held3 (λW=>W.cell? ⟨g,h*5,none⟩=some (.int .i64 xt)∧W.cell? ⟨g,h*5+1,none⟩=some (.int .i64 xn)∧W.cell? ⟨g,h*5+2,none⟩=some (.int .i64 xq)∧W.cell? ⟨g,h*5+3,none⟩=some (.slice sp nl sc)∧W.cell? ⟨g,h*5+4,none⟩=some (.slice dp bl dc)∧W.cell? ⟨w.heap.size,0,none⟩=some (.int .i64 t)∧W.cell? ⟨w.heap.size,1,none⟩=some (.int .i64 n)∧Hid (Below wr.heap.size wr W))
     (first|exact S1|exact S2|assumption|exact HS _ _ (by assumption) (by assumption))
     (first|(go_at_call 156;refine acz (hcall _) ?_;intro w3 HB3))
    have HB2:Hid (Below wr.heap.size wr _):=HF _ (by assumption)
    go_wp2_with fail
    go_roundw
    case rel=>exact⟨i,h,by omega,by omega,rfl,rfl,a2z HI.out.1 HB2.out,HI.out.2.1,(λk y hk hy=>by
      by_cases e:k=h
      ·subst e;rw[HX.out.1]at hy;cases hy;exact HL.out
      ·have h1:=List.pairwise_iff_getElem.1 HPW.out h k (List.getElem?_eq_some_iff.1 HX.out.1).1 (List.getElem?_eq_some_iff.1 hy).1 (by omega)
       rw[(List.getElem?_eq_some_iff.1 hy).2,(List.getElem?_eq_some_iff.1 HX.out.1).2]at h1
       exact λe=>HL.out (fHz h1 e))⟩
    case measure=>simp[intOf];omega
  ·obtain rfl:j=i:=by omega
   by_cases hin:j<L.length
   ·have hinI:(j:Int)<L.length:=by omega
    obtain⟨x,hx⟩:∃x,L[j]? =some x:=⟨_,List.getElem?_eq_getElem hin⟩
    obtain⟨p',c',e',hc⟩:=(HR.out.below HI.out.1).caps
    cases e'
    obtain⟨g,rfl,d0,d1,d2,d3,d4⟩:=hc j x hx
    have hcall:∀W,Calls Tryz.prog 156 #[vgv x,idv t n] W λe w'=>e=.returned (.int .i64 (bdz x.t x.n t n))∧Below W.heap.size W w':=λW=>cez x t n W
    obtain⟨z,hz⟩:∃z,bdz x.t x.n t n=z:=⟨_,rfl⟩
    rw[hz]at hcall
    clear hc hx hz
    obtain⟨xt,xn,xq,ns,sp,sc,bs,dp,dc⟩:=x
    simp only[vgv,vgC]at*
    generalize ns.length=nl at*
    generalize bs.length=bl at*
    go_wp2_with fail
    have HF:∀W,(W.cell? ⟨g,j*5,none⟩=some (.int .i64 xt)∧W.cell? ⟨g,j*5+1,none⟩=some (.int .i64 xn)∧W.cell? ⟨g,j*5+2,none⟩=some (.int .i64 xq)∧W.cell? ⟨g,j*5+3,none⟩=some (.slice sp nl sc)∧W.cell? ⟨g,j*5+4,none⟩=some (.slice dp bl dc)∧W.cell? ⟨w.heap.size,0,none⟩=some (.int .i64 t)∧W.cell? ⟨w.heap.size,1,none⟩=some (.int .i64 n)∧Hid (Below wr.heap.size wr W))→Below wr.heap.size wr W:=λW hW=>hW.2.2.2.2.2.2.2.out
    have HK:∀W,Below wr.heap.size wr W→W.cell? ⟨g,j*5,none⟩=some (.int .i64 xt)∧W.cell? ⟨g,j*5+1,none⟩=some (.int .i64 xn)∧W.cell? ⟨g,j*5+2,none⟩=some (.int .i64 xq)∧W.cell? ⟨g,j*5+3,none⟩=some (.slice sp nl sc)∧W.cell? ⟨g,j*5+4,none⟩=some (.slice dp bl dc)∧W.cell? ⟨w.heap.size,0,none⟩=some (.int .i64 t)∧W.cell? ⟨w.heap.size,1,none⟩=some (.int .i64 n)∧Hid (Below wr.heap.size wr W):=λW hb=>⟨a5z d0 hb,a5z d1 hb,a5z d2 hb,a5z d3 hb,a5z d4 hb,a5z t0 hb,a5z t1 hb,hb⟩
    have HS:=λW W' h1 (h2:Hid (Below W.heap.size W W'))=>HK W' (a2z (HF W h1) h2.out)
    have S1:=HK _ (a6z wr);have S2:=HK _ (Below.refl _ _)
    go_region_held3 (λW=>W.cell? ⟨g,j*5,none⟩=some (.int .i64 xt)∧W.cell? ⟨g,j*5+1,none⟩=some (.int .i64 xn)∧W.cell? ⟨g,j*5+2,none⟩=some (.int .i64 xq)∧W.cell? ⟨g,j*5+3,none⟩=some (.slice sp nl sc)∧W.cell? ⟨g,j*5+4,none⟩=some (.slice dp bl dc)∧W.cell? ⟨w.heap.size,0,none⟩=some (.int .i64 t)∧W.cell? ⟨w.heap.size,1,none⟩=some (.int .i64 n)∧Hid (Below wr.heap.size wr W))
     (first|exact S1|exact S2|assumption|exact HS _ _ (by assumption) (by assumption))
     (first|(go_at_call 156;refine acz (hcall _) ?_;intro w3 HB3))
    have HB2:Hid (Below wr.heap.size wr _):=HF _ (by assumption)
    go_wp2_with fail
    go_ret2
    exact⟨j,_,rfl,⟨by omega,HI.out.2.1,HI.out.2.2⟩,a2z HB.out (a2z HI.out.1 HB2.out)⟩
   ·obtain rfl:j=L.length:=by omega
    go_wp2_with fail
    go_quiet (fail)
    go_wp2_with fail
    go_ret2
    exact⟨L.length,false,rfl,⟨by omega,HI.out.2.1,HI.out.2.2⟩,a2z HB.out (a2z HI.out.1 (anz wr _))⟩
end Go.Proofs.YthhakekbffembaaGreatDoor.Ck.Y.L
