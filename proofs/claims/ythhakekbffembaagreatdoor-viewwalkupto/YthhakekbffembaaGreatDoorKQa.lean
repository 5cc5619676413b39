import Derived.Test.YthhakekbffembaaGreatDoorKZa
import Derived.Test.YthhakekbffembaaGreatDoorKZr
import Derived.Maps.AppendAt
import Derived.Deep.MidRow
import Derived.Laws.OwnMore

namespace Go.Proofs.YthhakekbffembaaGreatDoor.Ck.Y
open Go.RowKit Go.Maps
variable {g base n cap:Nat} {w:World} {v:Value}
structure Stop (p:Prop):Prop where
 out:p
theorem aiz {W:World} {g':Nat} {cs cs':Array Value} {t t':TypeId} {fr fr':Nat×Nat} (h:W.heap[g]? =some (.cells cs t fr)) (h':W.heap[g']? =some (.cells cs' t' fr')) (ht:t≠t'):g≠g':=by
 rintro rfl
 rw[h]at h'
 simp only[Option.some.injEq,Obj.cells.injEq]at h'
 exact ht h'.2.1
theorem own_below {w':World} {e:TypeId} {size:Nat} {xs:List Value} (h:w.ownsRow base e size v n xs) (hb:Below w.heap.size w w'):w'.ownsRow base e size v n xs:=by
 refine⟨h.1, ?_⟩
 rcases h.2 with h0|⟨g,cap,cur,hv,hbs,hblk,r⟩
 ·exact .inl h0
 ·exact .inr ⟨g,cap,cur,hv,hbs,(hb.block g (block_lt hblk)).trans hblk,r⟩
theorem own_slice {W:World} {e:TypeId} {xs:List Value} {s:Nat} (h:W.ownsRow base e s v n xs):∃p cap,v=.slice p n cap:=by
 rcases h.2 with⟨rfl,h0⟩|⟨g',cap,cur,rfl,_⟩
 ·exact⟨none,0,by rw[h0]⟩
 ·exact⟨_,_,rfl⟩
def azz (t n t' n':Int):Bool:=decide (t=t')&&decide (n=n')
theorem bTz (t n t' n':Int) (w:World):Calls Tryz.prog 15 #[idv t n,idv t' n'] w λe w'=>e=.returned (.bool (azz t n t' n'))∧Below w.heap.size w w':=by
 have HB:Hid (∀o o',Below w.heap.size w ((w.alloc o).alloc o')):=λo o'=>(b0z w o o').out
 by_cases h0:t=t'
 ·subst h0
  have HE:Hid (azz t n t n'=decide (n=n')):=by show _=_;simp[azz]
  go_enter Tryz.func15,Tryz.ntmps15
  go_wp2
  go_ret
  rw[HE.out]
  exact⟨by simp;rfl,HB.out _ _⟩
 ·have HE:Hid (azz t n t' n'=false):=by show _=_;simp[azz,h0]
  go_enter Tryz.func15,Tryz.ntmps15
  go_wp2
  go_ret
  rw[HE.out]
  exact⟨by simp,HB.out _ _⟩
structure OG where
 t:Int
 n:Int
 sq:Int
 kd:Int
 ot:Int
 on:Int
 pt:Int
 pn:Int
 nm:ByteArray
 dp:Option Addr
 dl:Nat
 dc:Nat
 sp:Option Addr
 sl:Nat
 sc:Nat
variable {l:List OG}
def opG (x:OG):List Value:=[.int .i64 x.t,.int .i64 x.n,.int .i64 x.sq,.int .i64 x.kd,.int .i64 x.ot,.int .i64 x.on,.int .i64 x.pt,.int .i64 x.pn,.string x.nm,.slice x.dp x.dl x.dc,.slice x.sp x.sl x.sc]
abbrev bhz (x:OG):Array Value:= #[.int .i64 x.t,.int .i64 x.n,.int .i64 x.sq,.int .i64 x.kd,.int .i64 x.ot,.int .i64 x.on,.int .i64 x.pt,.int .i64 x.pn,.string x.nm,.slice x.dp x.dl x.dc,.slice x.sp x.sl x.sc]
abbrev b2z (x:OG):Value:=.agg (bhz x)
def aZz:List OG→List Value
 |[]=>[]
 |x::l=>opG x++aZz l
theorem aVz (x:OG):(opG x).length=11:=rfl
theorem jlz (x:OG):∀v∈opG x,v.oneCell'=true:=by
 intro v hv
 simp only[opG,List.mem_cons,List.not_mem_nil,or_false]at hv
 rcases hv with rfl|rfl|rfl|rfl|rfl|rfl|rfl|rfl|rfl|rfl|rfl<;>rfl
theorem dtz:∀l:List OG,(aZz l).length=l.length*11
 |[]=>rfl
 |x::l=>by rw[aZz,List.length_append,aVz,dtz l,List.length_cons];omega
theorem cAz:∀l m:List OG,aZz (l++m)=aZz l++aZz m
 |[],_=>rfl
 |x::l,m=>by rw[List.cons_append,aZz,aZz,cAz l m,List.append_assoc]
theorem gNz:∀(l:List OG) (i j:Nat) (x:OG),l[i]? =some x→j<11→(aZz l)[i*11+j]? =(opG x)[j]?
 |[],_,_,_,h,_=>by simp at h
 |y::l,0,j,x,h,hj=>by
  have:y=x:=by simpa using h
  subst this
  rw[aZz,Nat.zero_mul,Nat.zero_add,List.getElem?_append_left (by rw[aVz];exact hj)]
 |y::l,i+1,j,x,h,hj=>by
  rw[aZz,List.getElem?_append_right (by rw[aVz];omega),aVz,show(i+1)*11+j-11=i*11+j by omega]
  exact gNz l i j x (by simpa using h) hj
theorem fmz:∀(l:List OG) (i:Nat),(aZz l).take (i*11)=aZz (l.take i)
 |[],i=>by simp[aZz]
 |x::l,0=>by simp[aZz]
 |x::l,i+1=>by
  rw[aZz,List.take_succ_cons,aZz,List.take_append,aVz,show(i+1)*11-11=i*11 by omega,fmz l i,List.take_of_length_le (by rw[aVz];omega)]
theorem f4z:∀(l:List OG) (i:Nat),(aZz l).drop (i*11)=aZz (l.drop i)
 |[],i=>by simp[aZz]
 |x::l,0=>by simp
 |x::l,i+1=>by
  rw[aZz,List.drop_succ_cons,List.drop_append,aVz,show(i+1)*11-11=i*11 by omega,f4z l i,List.drop_of_length_le (by rw[aVz];omega),List.nil_append]
theorem jsz (l:List OG) (i:Nat) (x:OG) (hi:i<l.length):aZz (l.set i x)=(aZz l).take (i*11)++opG x++(aZz l).drop (i*11+11):=by
 rw[fmz,show i*11+11=(i+1)*11 by omega,f4z,List.set_eq_take_append_cons_drop,if_pos hi,cAz,aZz,List.append_assoc]
def RowG (w:World) (base:Nat) (v:Value) (l:List OG):Prop:=w.ownsRow base 33 11 v l.length (aZz l)
theorem RowG.nil (w:World) (base:Nat):RowG w base (.slice none 0 0) []:=⟨rfl,.inl ⟨rfl,rfl⟩⟩
theorem RowG.below {w':World} (h:RowG w base v l) (hb:Below w.heap.size w w'):RowG w' base v l:=own_below h hb
theorem RowG.form (h:RowG w base v l) (hl:0<l.length):∃g cap cur,v=.slice (some ⟨g,0,none⟩) l.length cap∧w.heap[g]? =some (.cells cur 33 (0,0))∧base≤g∧l.length≤cap∧cap≤maxLen∧cur.size=cap*11∧cur.toList.take (l.length*11)=aZz l:=by
 rcases h.2 with⟨_,h0⟩|⟨g,cap,cur,hv,hb,hblk,h1,h2,h3,h4⟩
 ·omega
 ·exact⟨g,cap,cur,hv,hblk,hb,h1,h2,h3,h4⟩
theorem RowG.slice (h:RowG w base v l):∃p cap,v=.slice p l.length cap:=own_slice h
theorem RowG.tag (h:RowG w base v l) (hg:v.ownBlock=some g):∃cs,w.heap[g]? =some (.cells cs 33 (0,0))∧base≤g:=by
 rcases h.2 with⟨rfl,_⟩|⟨g',cap,cur,rfl,hb,hblk,_⟩
 ·simp[Value.ownBlock]at hg
 ·have e':g'=g:=by simpa[Value.ownBlock]using hg
  subst e'
  exact⟨cur,hblk,hb⟩
theorem RowG.cur (h:RowG w base (.slice (some ⟨g,0,none⟩) n cap) l):∃cur,w.heap[g]? =some (.cells cur 33 (0,0))∧n=l.length∧base≤g∧n≤cap∧cap≤maxLen∧cur.size=cap*11∧cur.toList.take (n*11)=aZz l:=by
 rcases h.2 with⟨e,_⟩|⟨g',cap',cur,e,hb,hblk,h1,h2,h3,h4⟩
 ·cases e
 ·cases e
  exact⟨cur,hblk,rfl,hb,h1,h2,h3,h4⟩
theorem RowG.cells (h:RowG w base (.slice (some ⟨g,0,none⟩) n cap) l) {i:Nat} {x:OG} (hx:l[i]? =some x):
  w.cell? ⟨g,i*11,none⟩=some (.int .i64 x.t)∧w.cell? ⟨g,i*11+1,none⟩=some (.int .i64 x.n)∧w.cell? ⟨g,i*11+2,none⟩=some (.int .i64 x.sq)∧w.cell? ⟨g,i*11+3,none⟩=some (.int .i64 x.kd)∧w.cell? ⟨g,i*11+4,none⟩=some (.int .i64 x.ot)∧w.cell? ⟨g,i*11+5,none⟩=some (.int .i64 x.on)∧w.cell? ⟨g,i*11+6,none⟩=some (.int .i64 x.pt)∧w.cell? ⟨g,i*11+7,none⟩=some (.int .i64 x.pn)∧w.cell? ⟨g,i*11+8,none⟩=some (.string x.nm)∧w.cell? ⟨g,i*11+9,none⟩=some (.slice x.dp x.dl x.dc)∧w.cell? ⟨g,i*11+10,none⟩=some (.slice x.sp x.sl x.sc):=by
 obtain⟨cur,hblk,hn,_,_,_,_,h4⟩:=h.cur
 have hil:=(List.getElem?_eq_some_iff.1 hx).1
 have key:∀j,j<11→w.cell? ⟨g,i*11+j,none⟩=(opG x)[j]? :=λj hj=>by
  rw[cellOf hblk,← gNz l i j x hx hj,← h4,List.getElem?_take,if_pos (by omega),Array.getElem?_toList]
 exact⟨key 0 (by omega),key 1 (by omega),key 2 (by omega),key 3 (by omega),key 4 (by omega),key 5 (by omega),key 6 (by omega),key 7 (by omega),key 8 (by omega),key 9 (by omega),key 10 (by omega)⟩
theorem jjz:∃i,Tryz.prog.info? 33=some i∧i.zero=some (.agg #[.int .i64 0,.int .i64 0,.int .i64 0,.int .i64 0,.int .i64 0,.int .i64 0,.int .i64 0,.int .i64 0,.string ⟨#[]⟩,.slice none 0 0,.slice none 0 0])∧i.size=11∧i.bytes=128:=by
 have e:(Tryz.prog.info? 33).map (λi=>(i.zero,i.size,i.bytes))=some (some (.agg #[.int .i64 0,.int .i64 0,.int .i64 0,.int .i64 0,.int .i64 0,.int .i64 0,.int .i64 0,.int .i64 0,.string ⟨#[]⟩,.slice none 0 0,.slice none 0 0]),11,128):=by kernel_rfl
 obtain⟨i,hi,he⟩:=Option.map_eq_some_iff.1 e
 injection he with h1 h2
 injection h2 with h2 h3
 exact⟨i,hi,h1,h2,h3⟩
theorem RowG.set {i:Nat} {cur:Array Value} (h:RowG w base (.slice (some ⟨g,0,none⟩) n cap) l) (hi:i<l.length) (x:OG) (hc:w.heap[g]? =some (.cells cur 33 (0,0))):
  RowG (w.setRow g (cur.toList.take (i*11)++opG x++cur.toList.drop (i*11+11)).toArray) base (.slice (some ⟨g,0,none⟩) n cap) (l.set i x):=by
 obtain⟨cur',hblk,hn,hb,h1,h2,h3,h4⟩:=h.cur
 rw[hc]at hblk
 injection hblk with hblk
 injection hblk with hblk
 subst hblk
 refine⟨by rw[dtz],.inr ⟨g,cap,_,by rw[List.length_set,hn],hb,setRow_heap w g _ _ _ _ hc,by rw[List.length_set];omega,h2, ?_, ?_⟩⟩
 ·simp only[List.size_toArray,List.length_append,List.length_take,List.length_drop,Array.length_toList,aVz,h3]
  omega
 ·rw[jsz l i x hi,← h4,List.length_set,← hn]
  have hlen:cur.toList.length=cap*11:=by rw[Array.length_toList,h3]
  apply List.ext_getElem?
  intro j
  simp only[List.getElem?_take,List.getElem?_append,List.length_append,List.length_take,aVz,List.getElem?_drop,hlen]
  by_cases a1:j<n*11
  ·rw[if_pos a1]
   have e1:min (i*11) (cap*11)=i*11:=by omega
   have e2:min (i*11) (min (n*11) (cap*11))=i*11:=by omega
   rw[e1,e2]
   by_cases a2:j<i*11
   ·have a4:j<i*11+11:=by omega
    simp only[a4,a2,a1,if_true]
   ·by_cases a3:j<i*11+11
    ·simp only[a3,a2,if_true,if_false]
    ·simp only[a3,if_false]
     rw[if_pos (by omega)]
  ·rw[if_neg a1]
   have e2:min (i*11) (min (n*11) (cap*11))=i*11:=by omega
   rw[e2,if_neg (by omega),if_neg (by omega)]
theorem cdz {ops:Array Oper} {rest:List Oper} {o:Oper} {a:Act} {Q:Exit→Act→World→Prop} (hgd:o.guard=none) (x y:Operand) (ho:o.op=.store 33 x y)
  (base g n cap i:Nat) (l:List OG) (z:OG) (hx:a.eval x=.pointer (some ⟨g,i*11,none⟩)) (hy:a.eval y=b2z z) (h:Hid (RowG w base (.slice (some ⟨g,0,none⟩) n cap) l∧i<l.length)) (hK:∀w',Hid (RowG w' base (.slice (some ⟨g,0,none⟩) n cap) (l.set i z)∧Only (· =g) w w'∧w'.heap.size=w.heap.size)→wpList Tryz.prog ops Q rest (a.put o.dst undef) w'):wpList Tryz.prog ops Q (o::rest) a w:=by
 obtain⟨h1,hi⟩:=h.out
 obtain⟨cur,hblk,hn,hb,g1,g2,g3,g4⟩:=h1.cur
 obtain⟨i0,hi0,hz0,hz1,hz2⟩:=jjz
 have hr:=run_storeCells_at (P:=Tryz.prog) g (i*11) 33 (opG z) 0 cur w hblk (by rw[aVz,g3];omega) (jlz z)
 rw[Nat.add_zero,aVz]at hr
 have hs:(storeVar 33 ⟨g,i*11,none⟩ (b2z z)).run Tryz.prog w=.ok () (w.setRow g (cur.toList.take (i*11)++opG z++cur.toList.drop (i*11+11)).toArray):=by
  rw[← hr]
  simp[storeVar,sizeOf,typeInfo,hi0,Value.cells,hz1,opG]
 refine wpList_plain hgd λK hK'=> ?_
 unfold Oper.wp execOp
 simp only[ho,hx,hy,Instr.storeAt,Instr.sureAddr,Sem.run_bind,Sem.run_pure,Result.andThen_ok,hs]
 exact hK' _ _ (hK _ ⟨h1.set hi z hblk,⟨rfl,rfl,rfl,by simp,λk _ hk=>setRow_other w g k _ hk⟩,by simp⟩)
theorem wpList_appG {ops:Array Oper} {rest:List Oper} {o:Oper} {a:Act} {Q:Exit→Act→World→Prop} (hgd:o.guard=none) (s x:Operand) (ho:o.op=.call {callee:=.builtin .append,args:= #[s,x],argTypes:= #[22,22]})
  (base:Nat) (v:Value) (l:List OG) (z:OG) (hs:a.eval s=v) (g:Nat) (hx:a.eval x=.slice (some ⟨g,0,none⟩) 1 1) (h:Hid (RowG w base v l∧w.heap[g]? =some (.cells (bhz z) 33 (0,0))∧l.length<1000000∧base≤w.heap.size)) (hK:∀p c w',Hid (RowG w' base (.slice p (l.length+1) c) (l++[z])∧w.grownBy w' v.ownBlock∧((Value.slice p (l.length+1) c).ownBlock=v.ownBlock∨(Value.slice p (l.length+1) c).ownBlock=some w.heap.size))→wpList Tryz.prog ops Q rest (a.put o.dst (.slice p (l.length+1) c)) w'):wpList Tryz.prog ops Q (o::rest) a w:=by
 obtain⟨h1,hg,hl,hb⟩:=h.out
 obtain⟨i0,hi0,hz0,hz1,hz2⟩:=jjz
 refine wpList_append_own_at _ hgd s x 22 ho base 33 i0 _ 11 128 Tryz.underlying22 hi0 hz0 hz1 hz2 rfl (by decide) v l.length (aZz l) hs h1 ⟨g,0,none⟩ 1 1 (opG z) hx rfl (λj u hj=>by
  rw[Addr.add_lit,Nat.zero_add,cellOf hg j]
  simpa[bhz,opG]using hj) (jlz z) (by unfold maxLen;omega) (by omega) hb ?_
 intro v' w' g1 g2 _ g4
 obtain⟨p,c,rfl⟩:=own_slice g1
 refine hK p c w' ⟨?_,g2,g4⟩
 have e:aZz (l++[z])=aZz l++opG z:=by rw[cAz];simp[aZz]
 unfold RowG
 rw[e,List.length_append]
 exact g1
theorem bLz {T:TypeId} {fr:Nat×Nat} {x:OG} (h:w.heap[g]? =some (.cells (bhz x) T fr)):
  w.cell? ⟨g,0,none⟩=some (.int .i64 x.t)∧w.cell? ⟨g,1,none⟩=some (.int .i64 x.n)∧w.cell? ⟨g,2,none⟩=some (.int .i64 x.sq)∧w.cell? ⟨g,3,none⟩=some (.int .i64 x.kd)∧w.cell? ⟨g,4,none⟩=some (.int .i64 x.ot)∧w.cell? ⟨g,5,none⟩=some (.int .i64 x.on)∧w.cell? ⟨g,6,none⟩=some (.int .i64 x.pt)∧w.cell? ⟨g,7,none⟩=some (.int .i64 x.pn)∧w.cell? ⟨g,8,none⟩=some (.string x.nm)∧w.cell? ⟨g,9,none⟩=some (.slice x.dp x.dl x.dc)∧w.cell? ⟨g,10,none⟩=some (.slice x.sp x.sl x.sc):=
 ⟨cellOf h 0,cellOf h 1,cellOf h 2,cellOf h 3,cellOf h 4,cellOf h 5,cellOf h 6,cellOf h 7,cellOf h 8,cellOf h 9,cellOf h 10⟩
end Go.Proofs.YthhakekbffembaaGreatDoor.Ck.Y
