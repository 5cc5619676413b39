import Derived.Test.YthhakekbffembaaGreatDoorProg
import Derived.WalkKit
import Derived.WalkSpells
import Derived.WalkLawsBesides
import Derived.Laws.CopyOwn
import Derived.Laws.BitsAllLaws
import Derived.Laws.OwnMore
import Derived.Laws.BytesArg
import Derived.Deep.AppendLies
import Derived.Maps.AppendAt
import Derived.Lib.AppendStr
import Derived.Lib.SliceRun
import Derived.Lib.SlBytesConst
import Derived.Deep.LoopGhost
import Derived.Deep.QuietTactic
import Derived.BigQuiet
import Derived.RegionTactic
set_option maxRecDepth 8000
set_option maxHeartbeats 400000

namespace Go.Proofs.YthhakekbffembaaGreatDoor.Cd
def lIz (bs:List (BitVec 8)):Nat→Nat→Nat→Option (Nat×Nat)
 |0,_,_=>none
 |f+1,i,acc=>
  match bs[i]? with
  |none=>none
  |some x=>if x.toNat<128 then(if x.toNat=0∧0<i then none else some (acc+x.toNat*128 ^ i,i+1))else lIz bs f (i+1) (acc+x.toNat%128*128 ^ i)
def first(bs:List (BitVec 8)):Option (Nat×Nat):=lIz bs 9 0 0
abbrev St:=Option (List (BitVec 8))
def cgz (most:Nat):St→Nat×St
 |none=>(0,none)
 |some bs=>match first bs with
  |none=>(0,none)
  |some (n,k)=>if most<n then(0,none)else(n,some (bs.drop k))
def h4z (most:Nat):Nat→St→List Nat×St
 |0,s=>([],s)
 |n+1,s=>((cgz most s).1::(h4z most n (cgz most s).2).1,(h4z most n (cgz most s).2).2)
def lEz (s:St):List (BitVec 8)×St:=
 match(cgz 65536 s).2 with
 |none=>([],none)
 |some bs=>if bs.length<(cgz 65536 s).1 then([],none)else(bs.take (cgz 65536 s).1,some (bs.drop (cgz 65536 s).1))
def nZz (s:St):Bool×St:=((cgz 1 s).1==1,(cgz 1 s).2)
def rid (s:St):(Nat×Nat)×St:=
 match(cgz 63 (cgz 1152921504606846976 s).2).2 with
 |none=>((0,0),none)
 |some bs=>(((cgz 1152921504606846976 s).1,(cgz 63 (cgz 1152921504606846976 s).2).1),some bs)
def ouz (s:St):List Nat×St:=
 match(h4z 1152921504606846976 (cgz 64 s).1 (cgz 64 s).2).2 with
 |none=>([],none)
 |some bs=>if(h4z 1152921504606846976 (cgz 64 s).1 (cgz 64 s).2).1.getLast? =some 0 then([],none)else((h4z 1152921504606846976 (cgz 64 s).1 (cgz 64 s).2).1,some bs)
def skip (kind:Int) (s:St):St:=
 if kind=0 then(cgz 4611686018427387904 s).2
 else if kind=1 then(lEz s).2
 else if kind=2 then(lEz s).2
 else if kind=3 then(nZz s).2
 else if kind=4 then(rid s).2
 else(ouz s).2
end Go.Proofs.YthhakekbffembaaGreatDoor.Cd

namespace Go.Proofs.YthhakekbffembaaGreatDoor.Cd
open Go.RowKit
variable {w w':World} {b base e n:Nat} {cs:Array Value} {t:TypeId} {v:Value} {S:Nat→Prop} {p:Option Addr} {bs:List (BitVec 8)} {xs:List Value}
theorem Tryz.info5:(Tryz.prog.info? 5).map (λi=>(i.zero,i.size,i.bytes))=some (some (.int .u8 0),1,1):=by kernel_rfl
theorem Tryz.info2:(Tryz.prog.info? 2).map (λi=>(i.zero,i.size,i.bytes))=some (some (.int .i64 0),1,8):=by kernel_rfl
theorem cellOf {f:Nat×Nat} (h:w.heap[b]? =some (.cells cs t f)) (j:Nat):
  w.cell? ⟨b,j,none⟩=cs[j]? :=by
 simp[World.cell?,h]
theorem aez (h:w.heap[b]? =some (.cells cs t (0,0))) (j:Nat):
  w.frozen? ⟨b,j,none⟩=false:=by
 simp[World.frozen?,h]
theorem a4z {k:Nat} (h:w.cell? ⟨b,k,none⟩=some v):b<w.heap.size:=by
 by_cases hb:b<w.heap.size
 ·exact hb
 ·simp[World.cell?,Array.getElem?_eq_none (Nat.not_lt.1 hb)]at h
theorem block_lt {o:Obj} (h:w.heap[b]? =some o):b<w.heap.size:=(Array.getElem?_eq_some_iff.1 h).1
theorem adz {P:Program} {f:Nat} {args:Array Value} {v:Ending} {K:Ending→World→Prop}
  (h:Calls P f args w λe w'=>e=v∧w'=w) (hk:K v w):Calls P f args w K:=
 h.mono (by rintro e w' ⟨rfl,rfl⟩;exact hk)
def u8v (b:BitVec 8):Value:=.int .u8 (b.toNat:Int)
abbrev nv (n:Nat):Value:=.int .i64 (n:Int)
abbrev iv (n:Int):Value:=.int .i64 n
theorem n2z (bs:List (BitVec 8)):∀v∈bs.map u8v,v.oneCell'=true:=by
 intro v hv
 obtain⟨x,_,rfl⟩:=List.mem_map.1 hv
 rfl
def Bytes (w:World) (p:Option Addr) (bs:List (BitVec 8)):Prop:=
 0<bs.length→∃b o,p=some ⟨b,o,none⟩∧∀j x,bs[j]? =some x→w.cell? ⟨b,o+j,none⟩=some (u8v x)
def Lies (w:World) (p:Option Addr) (xs:List Value):Prop:=
 0<xs.length→∃b o,p=some ⟨b,o,none⟩∧∀j x,xs[j]? =some x→w.cell? ⟨b,o+j,none⟩=some x
theorem bytes_nil (w:World) (p:Option Addr):Bytes w p []:=λh=>absurd h (by simp)
theorem dPz (w:World) (p:Option Addr):Lies w p []:=λh=>absurd h (by simp)
structure Only (S:Nat→Prop) (w w':World):Prop where
 os:w'.os=w.os
 tape:w'.tape=w.tape
 output:w'.output=w.output
 size:w.heap.size≤w'.heap.size
 block:∀k,k<w.heap.size→¬S k→w'.heap[k]? =w.heap[k]?
theorem Only.refl (S:Nat→Prop) (w:World):Only S w w:=⟨rfl,rfl,rfl,Nat.le_refl _,λ_ _ _=>rfl⟩
theorem Only.trans {T:Nat→Prop} {a b c:World} (h:Only S a b) (k:Only T b c) (hs:∀i,T i→S i∨a.heap.size≤i):Only S a c:=
 ⟨k.os.trans h.os,k.tape.trans h.tape,k.output.trans h.output,Nat.le_trans h.size k.size,λi hi hn=>
  (k.block i (Nat.lt_of_lt_of_le hi h.size) (λe=>by rcases hs i e with h|h;exact hn h;omega)).trans (h.block i hi hn)⟩
theorem Only.next {a b c:World} (h:Only S a b) (k:Only S b c):Only S a c:=h.trans k (λ_ h=>.inl h)
theorem Only.below {B:Nat} (h:Only S w w') (hB:B≤w.heap.size) (hs:∀i,S i→B≤i):Below B w w':=
 ⟨h.os,h.tape,h.output,h.size,λk hk=>h.block k (by omega) (λe=>by have:=hs k e;omega)⟩
theorem Below.only (h:Below w.heap.size w w') (S:Nat→Prop):Only S w w':=
 ⟨h.os,h.tape,h.output,h.size,λk hk _=>h.block k hk⟩
theorem Only.setCell (w:World) (p:Addr) (u:Value) (h:S p.block):Only S w (w.setCell p u):=
 ⟨rfl,rfl,rfl,by simp[World.setCell],λk _ hk=>Below.heap_setCell _ _ _ _ (λe=>hk (e▸h))⟩
theorem Only.cell (h:Only S w w') {o:Nat} (hc:w.cell? ⟨b,o,none⟩=some v) (hn:¬S b):w'.cell? ⟨b,o,none⟩=some v:=
 (World.cell?_of_block (w:=w) (a:=⟨b,o,none⟩) (h.block b (a4z hc) hn)).trans hc
theorem Only.bytes (h:Only S w w') (hb:Bytes w p bs) (hn:∀b o,0<bs.length→p=some ⟨b,o,none⟩→¬S b):Bytes w' p bs:=by
 intro hl
 obtain⟨b,o,rfl,hx⟩:=hb hl
 exact⟨b,o,rfl,λj x hj=>h.cell (hx j x hj) (hn b o hl rfl)⟩
theorem Only.lies (h:Only S w w') {bs:List Value} (hb:Lies w p bs) (hn:∀b o,0<bs.length→p=some ⟨b,o,none⟩→¬S b):Lies w' p bs:=by
 intro hl
 obtain⟨b,o,rfl,hx⟩:=hb hl
 exact⟨b,o,rfl,λj x hj=>h.cell (hx j x hj) (hn b o hl rfl)⟩
theorem Only.owns (h:Only S w w') (ho:w.ownsRow base e 1 v n xs) (hn:∀b,v.ownBlock=some b→¬S b):w'.ownsRow base e 1 v n xs:=by
 refine⟨ho.1, ?_⟩
 rcases ho.2 with h0|⟨g,cap,cur,rfl,hb,hgg,r⟩
 ·exact .inl h0
 ·exact .inr ⟨g,cap,cur,rfl,hb,(h.block g (block_lt hgg) (hn g rfl)).trans hgg,r⟩
theorem below_bytes (h:Below w.heap.size w w') (hb:Bytes w p bs):Bytes w' p bs:=
 (Below.only h (λ_=>False)).bytes hb (λ_ _ _ _ h=>h)
theorem below_lies (h:Below w.heap.size w w') {bs:List Value} (hb:Lies w p bs):Lies w' p bs:=
 (Below.only h (λ_=>False)).lies hb (λ_ _ _ _ h=>h)
theorem own_below {W W':World} (h:W.ownsRow base e 1 v n xs) (hb:Below W.heap.size W W'):W'.ownsRow base e 1 v n xs:=
 (Below.only hb (λ_=>False)).owns h (λ_ _ h=>h)
theorem owns_bytes {W:World} (h:W.ownsRow base 5 1 v n (bs.map u8v)):
  n=bs.length∧∃p cap,v=.slice p bs.length cap∧bs.length≤cap∧Bytes W p bs∧(∀b o,p=some ⟨b,o,none⟩→v.ownBlock=some b):=by
 have hlen:=h.1
 rw[List.length_map,Nat.mul_one]at hlen
 subst hlen
 refine⟨rfl, ?_⟩
 rcases h.2 with⟨rfl,h0⟩|⟨g,cap,cur,rfl,hb',hgg,hc,r⟩
 ·refine⟨none,0,by rw[h0],by omega,λhl=>absurd hl (by omega),λb o e=>by cases e⟩
 ·refine⟨some ⟨g,0,none⟩,cap,rfl,hc,λ_=>⟨g,0,rfl,λj x hj=> ?_⟩,λb o e=>by cases e;rfl⟩
  have hlt:=(List.getElem?_eq_some_iff.1 hj).1
  rw[Nat.zero_add,h.cellAt j (by omega),List.getElem?_map,hj]
  rfl
theorem fRz {W:World} (h:W.ownsRow base e 1 v n xs):
  n=xs.length∧∃p cap,v=.slice p xs.length cap∧xs.length≤cap∧Lies W p xs∧(∀b o,p=some ⟨b,o,none⟩→v.ownBlock=some b):=by
 have hlen:=h.1
 rw[Nat.mul_one]at hlen
 subst hlen
 refine⟨rfl, ?_⟩
 rcases h.2 with⟨rfl,h0⟩|⟨g,cap,cur,rfl,hb',hgg,hc,r⟩
 ·refine⟨none,0,by rw[h0],by omega,λhl=>absurd hl (by omega),λb o e=>by cases e⟩
 ·refine⟨some ⟨g,0,none⟩,cap,rfl,hc,λ_=>⟨g,0,rfl,λj x hj=> ?_⟩,λb o e=>by cases e;rfl⟩
  have hlt:=(List.getElem?_eq_some_iff.1 hj).1
  rw[Nat.zero_add,h.cellAt j (by omega),hj]
theorem bytes_take (hb:Bytes w p bs) (n:Nat):Bytes w p (bs.take n):=by
 intro hl
 have hl':0<bs.length:=by rw[List.length_take]at hl;omega
 obtain⟨g,o,rfl,hx⟩:=hb hl'
 refine⟨g,o,rfl,λj x hj=> ?_⟩
 rw[List.getElem?_take]at hj
 split at hj
 ·exact hx j x hj
 ·cases hj
theorem daz {P:Program} (base:Nat) (t ty e:TypeId) (i:TypeInfo) (size:Nat) (ht:P.underlying t=some (.slice e)) (hi:P.info? e=some i)
  (v:Value) (n:Nat) (xs:List Value) (hown:w.ownsRow base e size v n xs) (c:Nat):
  (Builtin.append_ #[t,t] ty #[v,.slice none 0 c]).run P w=.ok v w:=by
 rcases hown.2 with⟨rfl,rfl⟩|⟨g,cap,cur,rfl,_,_,hnc,_⟩
 ·simp[Builtin.append_,run_underlying ht,sizeOf,typeInfo,hi,Builtin.lenOf,Builtin.firstCells]
 ·simp[Builtin.append_,run_underlying ht,sizeOf,typeInfo,hi,Builtin.lenOf,Builtin.firstCells,hnc,storeCells]
theorem e4z {W:World} (ty:TypeId) (hown:W.ownsRow base 5 1 v n xs) (p:Option Addr) (bs:List (BitVec 8)) (cp:Nat) (hb:Bytes W p bs) (h63:n+bs.length≤1099511627776) (hbase:base≤W.heap.size):
  ∃v' W',(Builtin.append_ #[29,29] ty #[v,.slice p bs.length cp]).run Tryz.prog W=.ok v' W'∧W'.ownsRow base 5 1 v' (n+bs.length) (xs++bs.map u8v)∧W.grownBy W' v.ownBlock∧(v'.ownBlock=v.ownBlock∨v'.ownBlock=some W.heap.size):=by
 obtain⟨i0,hi0,hz0,hz1,hz2⟩:=info_parts Tryz.info5
 rcases p with _|ad
 ·have h0:bs=[]:=by
   by_cases hl:0<bs.length
   ·obtain⟨_,_,h,_⟩:=hb hl;cases h
   ·exact List.eq_nil_of_length_eq_zero (by omega)
  subst h0
  refine⟨v,W,daz base 29 ty 5 i0 1 Tryz.underlying29 hi0 v n xs hown cp,by simpa using hown,⟨rfl,rfl,rfl,Nat.le_refl _,λ_ _ _=>rfl⟩,.inl rfl⟩
 ·obtain⟨v',w',hr,h2,h3,_,h5⟩:=run_append_own_at (P:=Tryz.prog) W base 29 ty 5 i0 (.int .u8 0) 1 1 Tryz.underlying29 hi0 hz0 hz1 hz2 rfl (by decide) v n xs hown ad bs.length cp (bs.map u8v) (by simp)
   (λj u hj=>by
    rw[List.getElem?_map]at hj
    obtain⟨x,hx,rfl⟩:=Option.map_eq_some_iff.1 hj
    obtain⟨b,o,e,hc⟩:=hb (Nat.lt_of_le_of_lt (Nat.zero_le _) (List.getElem?_eq_some_iff.1 hx).1)
    cases e
    rw[Addr.add_lit]
    exact hc j x hx) (n2z bs) (by unfold maxLen;omega) (by omega) hbase
  exact⟨v',w',hr,h2,h3,h5⟩
theorem d9z {W:World} {ops:Array Oper} {rest:List Oper} {o:Oper} {a:Act} {Q:Exit→Act→World→Prop} (hgd:o.guard=none) (s x:Operand) (ho:o.op=.call {callee:=.builtin .append,args:= #[s,x],argTypes:= #[29,29]})
  (base:Nat) (v:Value) (n:Nat) (xs:List Value) (hs:a.eval s=v) (hown:W.ownsRow base 5 1 v n xs)
  (p:Option Addr) (bs:List (BitVec 8)) (cp:Nat) (hx:a.eval x=.slice p bs.length cp) (hb:Bytes W p bs) (h63:n+bs.length≤1099511627776) (hbase:base≤W.heap.size) (h:∀v' w',w'.ownsRow base 5 1 v' (n+bs.length) (xs++bs.map u8v)→W.grownBy w' v.ownBlock→(v'.ownBlock=v.ownBlock∨v'.ownBlock=some W.heap.size)→wpList Tryz.prog ops Q rest (a.put o.dst v') w'):
  wpList Tryz.prog ops Q (o::rest) a W:=by
 refine wpList_plain hgd λK hK=> ?_
 obtain⟨v',w',hr,h2,h3,h5⟩:=e4z (ty:=o.type) hown p bs cp hb h63 hbase
 unfold Oper.wp execOp
 simp only[ho,resolve,invoke,builtin,Sem.run_bind,Sem.run_pure,Result.andThen_ok,List.map_toArray,List.map_cons,List.map_nil,hs,hx,hr]
 exact hK _ _ (h v' w' h2 h3 h5)
def strOf (bs:List (BitVec 8)):ByteArray:=strOfNums (bs.map λb=>(b.toNat:Int))
theorem run_str (W:World) (p:Option Addr) (bs:List (BitVec 8)) (c:Nat) (h:Bytes W p bs):
  (convert 29 9 (.slice p bs.length c)).run Tryz.prog W=.ok (.string (strOf bs)) W:=by
 by_cases hl:0<bs.length
 ·obtain⟨g,o,rfl,hx⟩:=h hl
  refine run_convert_bytes_arg W 29 5 Tryz.underlying29 Tryz.underlying5 g o bs.length c (bs.map λb=>(b.toNat:Int)) (by simp) (λi hi=> ?_) 9 Tryz.underlying9
  rw[hx i bs[i] (List.getElem?_eq_getElem hi)]
  simp[u8v,hi]
 ·have h0:bs=[]:=List.eq_nil_of_length_eq_zero (by omega)
  subst h0
  rcases p with _|ad
  ·exact run_convert_bytes_nil W 29 5 Tryz.underlying29 Tryz.underlying5 0 c 9 Tryz.underlying9
  ·have hl0:(loadCells ad 0).run Tryz.prog W=.ok #[] W:=by
    have:=run_loadCells_list (P:=Tryz.prog) W ad [] (λj v hj=>by simp at hj)
    simpa using this
   show(convert 29 9 (.slice (some ad) 0 c)).run Tryz.prog W=_
   rw[run_convert_bytes_string W 29 9 5 _ 0 c Tryz.underlying29 Tryz.underlying5 Tryz.underlying9]
   simp[Conv.bytesToString,hl0]
   rfl
theorem a7z {a k:Nat} {f:Nat×Nat} (h:w.heap[a]? =some (.cells cs t f)) (u:Value):(w.setCell ⟨a,k,none⟩ u).heap[a]? =some (.cells (cs.setIfInBounds k u) t f):=by
 simp[World.setCell,Array.getElem?_modify,h]
end Go.Proofs.YthhakekbffembaaGreatDoor.Cd

namespace Go.Proofs.YthhakekbffembaaGreatDoor.Cd
open Go.RowKit
theorem a3z (w:World) (o:Obj):Hid (Below w.heap.size w (w.alloc o)):=(Below.refl _ _).alloc (Nat.le_refl _) _
end Go.Proofs.YthhakekbffembaaGreatDoor.Cd

namespace Go.Proofs.YthhakekbffembaaGreatDoor.Cd
open Go.RowKit
def Cloned (w:World) (bs:List (BitVec 8)) (v:Value) (w':World):Prop:=w'.ownsRow w.heap.size 5 1 v bs.length (bs.map u8v)∧Below w.heap.size w w'
theorem clone_any (p:Option Addr) (bs:List (BitVec 8)) (cp:Nat) (w:World) (hl:bs.length≤1000000000) (hb:Bytes w p bs):
  Calls Tryz.prog 94 #[.slice p bs.length cp] w λe w'=>∃v,e=.returned v∧Cloned w bs v w':=by
 have qT:∀(w:World) (a:Option Addr) (n c n' c':Nat),(binOp .eql 29 (.slice a n c) (.slice none n' c')).run Tryz.prog w=.ok (.bool a.isNone) w:=λw a n c n' c'=>Lib.run_eql_slice_nil w _ _ a n c n' c' Tryz.underlying29
 rcases p with _|ad
 ·have h0:bs=[]:=by
   by_cases hl:0<bs.length
   ·obtain⟨_,_,h,_⟩:=hb hl;cases h
   ·exact List.eq_nil_of_length_eq_zero (by omega)
  subst h0
  clear hl hb
  go_enter Tryz.func94,Tryz.ntmps94
  go_wp2
  go_ret
  exact⟨_,rfl,World.ownsRow_nil _ _ _ _,Below.refl _ _⟩
 ·have HB:Hid (Bytes w (some ad) bs):=hb
  have HL:Hid (0+bs.length≤1099511627776):=by show _≤_;omega
  have tok:True:=trivial
  have HO:Hid ((w.alloc (.cells #[] 5)).ownsRow w.heap.size 5 1 (.slice (some ⟨w.heap.size,0,none⟩) 0 0) 0 []):=World.ownsRow_lit w #[] 0 (Nat.le_refl _) (by decide) rfl
  have HB1:Hid (Bytes (w.alloc (.cells #[] 5)) (some ad) bs):=below_bytes (a3z _ _).out hb
  have HZ:Hid (w.heap.size≤(w.alloc (.cells #[] 5)).heap.size):=by show _≤_;simp
  clear hl hb
  go_enter Tryz.func94,Tryz.ntmps94
  go_wp2_with (have tk:=tok;refine d9z rfl _ _ rfl w.heap.size _ 0 [] rfl HO.out _ bs _ rfl HB1.out HL.out HZ.out ?_;clear tk tok;intro v' w1 hown hg _;have HC:Hid (Cloned w bs v' w1):=⟨by simpa using hown,(a3z w _).out.grown hg (by simp) (by intro k hk;cases hk;exact Nat.le_refl _)⟩;clear hown hg)
  go_ret
  exact⟨_,rfl,HC.out⟩
end Go.Proofs.YthhakekbffembaaGreatDoor.Cd

namespace Go.Proofs.YthhakekbffembaaGreatDoor.Cd
open Go.RowKit
def tl (ns:List Int):Nat→Nat
 |0=>0
 |k+1=>if ns[k]? =some 0 then tl ns k else k+1
theorem dYz (ns:List Int):∀k,tl ns k≤k
 |0=>Nat.le_refl _
 |k+1=>by
  rw[tl];split
  ·exact Nat.le_succ_of_le (dYz ns k)
  ·exact Nat.le_refl _
end Go.Proofs.YthhakekbffembaaGreatDoor.Cd

namespace Go.Proofs.YthhakekbffembaaGreatDoor.Cd
open Go.RowKit
def okN (x:Int):Bool:=decide (0≤x)&&decide (x≤1152921504606846976)
def atOf (ns:List Int) (k:Nat):Int:=match ns[k]? with
 |some x=>if okN x then x else 0
 |none=>0
def bqz (ns:List Int) (n:Nat):List Int:=(List.range n).map (atOf ns)
def aMz (ns:List Int):List Int:=(bqz ns 64).take (tl (bqz ns 64) 64)
def c5z (ns:List Int):Bool:=decide (tl ns ns.length≤64)&&(ns.take (tl ns ns.length)).all okN
theorem dMz (ns:List Int) (n:Nat):(bqz ns n).length=n:=by simp[bqz]
theorem mQz (p:Option Addr) (ns:List Int) (cp:Nat) (w:World) (hl1:ns.length≤1000) (hp:Lies w p (ns.map iv)):
  Calls Tryz.prog 61 #[.slice p ns.length cp] w λe w'=>e=.returned (.bool (c5z ns))∧w'=w:=by
 have HP:Hid (Lies w p (ns.map iv)):=hp
 clear hp
 go_enter Tryz.func61,Tryz.ntmps61
 go_wp2_with fail
 go_loop [3] (λvv=>∃k:Nat,vv=.int .i64 k∧k≤ns.length∧Hid (tl ns k=tl ns ns.length)) (λvv=>(intOf vv).toNat)
 case atStart=>exact⟨_,rfl,Nat.le_refl _,rfl⟩
 case round=>
  obtain⟨k,rfl,hk,HE⟩:=hrel
  have done:tl ns k=k→True:=λ_=>trivial
  by_cases hend:k=0∨∃j x,k=j+1∧ns[j]? =some x∧x≠0
  ·have HT:Hid (tl ns ns.length=k):=by
    show _=_
    rw[← HE.out]
    rcases hend with rfl|⟨j,x,rfl,hx,hz⟩
    ·rfl
    ·rw[tl,if_neg (by rw[hx];intro e;cases e;exact hz rfl)]
   have hM:Hid (c5z ns=(decide (k≤64)&&(ns.take k).all okN)):=by show c5z ns=_;unfold c5z;rw[HT.out]
   clear done HE
   by_cases h64:64<k
   ·have h64I:(64:Int)<k:=by omega
    have hMf:Hid (c5z ns=false):=by show _=_;rw[hM.out,decide_eq_false (by omega)];rfl
    rcases hend with rfl|⟨j,x,rfl,hx,hz⟩
    ·omega
    ·obtain⟨b,o,rfl,hc⟩:=HP.out (by simp;omega)
     have c1:=hc j (iv x) (by rw[List.getElem?_map,hx];rfl)
     have hz':(x==0)=false:=by simpa using hz
     clear hc hx h64
     go_wp2
     go_ret
     rw[hMf.out]
     exact⟨rfl,rfl⟩
   ·rcases hend with rfl|⟨j,x,rfl,hx,hz⟩
    ·clear h64
     go_wp2_with fail
     go_loop [4] (λii=>ii=.int .i64 0) (λ_=>0)
     case atStart=>rfl
     case round=>
      subst hrel
      have HT:Hid (c5z ns=true):=by show _=_;rw[hM.out];rfl
      go_wp2
      go_ret
      rw[HT.out]
      exact⟨rfl,rfl⟩
    ·obtain⟨b,o,rfl,hc⟩:=HP.out (by simp;omega)
     have c1:=hc j (iv x) (by rw[List.getElem?_map,hx];rfl)
     have hz':(x==0)=false:=by simpa using hz
     have h64':¬(64:Int)<(j:Int)+1:=by omega
     clear hc hx hz
     go_wp2_with fail
     go_loop [4] (λii=>∃i:Nat,ii=.int .i64 i∧i≤(j+1)∧Hid ((ns.take i).all okN=true)) (λii=>(j+1)-(intOf ii).toNat)
     case atStart=>exact⟨0,rfl,by omega,by simp[Hid]⟩
     case round=>
      obtain⟨i,rfl,hi,HA⟩:=hrel
      by_cases hlt:i<(j+1)
      ·have hltI:(i:Int)<(j:Int)+1:=by omega
       obtain⟨b2,o2,e2,hc2⟩:=HP.out (by simp;omega)
       cases e2
       obtain⟨y,hy⟩:∃y,ns[i]? =some y:=⟨_,List.getElem?_eq_getElem (by omega)⟩
       have c2:=hc2 i (iv y) (by rw[List.getElem?_map,hy];rfl)
       have hgo:(ns.take (i+1)).all okN=okN y:=by rw[List.take_add_one,hy,List.all_append,HA.out];simp
       have HGO:Hid ((ns.take (i+1)).all okN=okN y):=hgo
       have HBAD:Hid (okN y=false→c5z ns=false):=λhno=>by
        rw[hM.out]
        have:ns.take (j+1)=ns.take (i+1)++(ns.take (j+1)).drop (i+1):=by
         conv=>lhs;rw[← List.take_append_drop (i+1) (ns.take (j+1)),List.take_take,Nat.min_eq_left (by omega)]
        rw[this,List.all_append,hgo,hno];simp
       clear hc2 hy hgo
       by_cases hn:y<0
       ·have HN:Hid (okN y=false):=by simp[Hid,okN];omega
        go_wp2
        go_ret
        rw[HBAD.out HN.out]
        exact⟨rfl,rfl⟩
       ·by_cases hm:(1152921504606846976:Int)<y
        ·have HN:Hid (okN y=false):=by simp[Hid,okN];omega
         go_wp2
         go_ret
         rw[HBAD.out HN.out]
         exact⟨rfl,rfl⟩
        ·have HN:Hid (okN y=true):=by simp[Hid,okN];omega
         go_wp2
         go_round
         case rel=>exact⟨i+1,by go_num,by omega,HGO.out.trans HN.out⟩
         case measure=>simp[intOf];omega
      ·obtain rfl:i=j+1:=by omega
       have HT:Hid (c5z ns=true):=by show _=_;rw[hM.out,HA.out,decide_eq_true (by omega)];rfl
       clear hlt
       go_wp2
       go_ret
       rw[HT.out]
       exact⟨rfl,rfl⟩
  ·obtain⟨j,rfl⟩:∃j,k=j+1:=⟨k-1,by rcases Nat.eq_zero_or_pos k with h|h;exact absurd (.inl h) hend;omega⟩
   obtain⟨x,hx⟩:∃x,ns[j]? =some x:=⟨_,List.getElem?_eq_getElem (by omega)⟩
   have hz:x=0:=Decidable.byContradiction λh=>hend (.inr ⟨j,x,rfl,hx,h⟩)
   subst hz
   obtain⟨b,o,rfl,hc⟩:=HP.out (by simp;omega)
   have c1:=hc j (iv 0) (by rw[List.getElem?_map,hx];rfl)
   have HX:Hid (ns[j]? =some 0):=hx
   clear hc hx hend done
   go_wp2
   go_round
   case rel=>
    refine⟨j,by go_num,by omega, ?_⟩
    have:=HE.out
    rw[tl,if_pos HX.out]at this
    exact this
   case measure=>simp[intOf]
end Go.Proofs.YthhakekbffembaaGreatDoor.Cd

namespace Go.Proofs.YthhakekbffembaaGreatDoor.Cd
open Go.RowKit
theorem own_base {W:World} {base base' e:Nat} {v:Value} {n:Nat} {xs:List Value} (h:W.ownsRow base e 1 v n xs) (hb:base'≤base):W.ownsRow base' e 1 v n xs:=by
 refine⟨h.1, ?_⟩
 rcases h.2 with h0|⟨g,cap,cur,rfl,h1,r⟩
 ·exact .inl h0
 ·exact .inr ⟨g,cap,cur,rfl,Nat.le_trans hb h1,r⟩
theorem jVz (ns:List Int):∀x∈aMz ns,okN x=true:=by
 intro x hx
 have:=List.mem_of_mem_take hx
 unfold bqz at this
 obtain⟨k,_,rfl⟩:=List.mem_map.1 this
 unfold atOf
 split
 ·split
  ·assumption
  ·rfl
 ·rfl
theorem fSz (ns:List Int):(aMz ns).length≤64:=by
 unfold aMz;rw[List.length_take,dMz];omega
end Go.Proofs.YthhakekbffembaaGreatDoor.Cd

namespace Go.Proofs.YthhakekbffembaaGreatDoor.Cd
open Go.RowKit
def fv (K a:Nat):Value:=.func (.func K) #[.pointer (some ⟨a,0,none⟩)] #[]
theorem enters {f:Nat} {fn:Func} {c:Code} (hf:Tryz.prog.funcs[f]? =some fn) (hname:(fn.name== "runtime.NumGoroutine")=false) (hb:fn.body=some c):∀args w,(callFunc f args).run Tryz.prog w=.ok (.enter f args) w:=by
 intro args w
 have h1:fn.name≠ "runtime.NumGoroutine" :=by simpa using hname
 simp[callFunc,hf,h1,hb,mark]
theorem lies_take {w:World} {p:Option Addr} {xs:List Value} (h:Lies w p xs) (k:Nat):Lies w p (xs.take k):=by
 intro hl
 obtain⟨b,o,rfl,hx⟩:=h (by rw[List.length_take]at hl;omega)
 refine⟨b,o,rfl,λj x hj=>hx j x ?_⟩
 rw[List.getElem?_take]at hj
 split at hj
 ·exact hj
 ·cases hj
end Go.Proofs.YthhakekbffembaaGreatDoor.Cd

namespace Go.Proofs.YthhakekbffembaaGreatDoor.Cd
open Go.RowKit
theorem d5z (ns:List Int):∀(k j:Nat),tl ns k≤j→j<k→ns[j]? =some 0
 |0,j=>λ_ h=>by omega
 |k+1,j=>λh1 h2=>by
  rw[tl]at h1
  split at h1
  ·by_cases hj:j=k
   ·subst hj;assumption
   ·exact d5z ns k j h1 (by omega)
  ·omega
def zs (vs:List Nat):List Int:=vs.map λn:Nat=>(n:Int)
end Go.Proofs.YthhakekbffembaaGreatDoor.Cd

namespace Go.Proofs.YthhakekbffembaaGreatDoor.Cd
theorem nwz (ns:List Int) (k:Nat) (x:Int) (h:ns[k]? =some x) (hx:okN x=true):atOf ns k=x:=by
 unfold atOf;rw[h];simp[hx]
theorem e9z (ns:List Int) (n k:Nat) (h:k<n):(bqz ns n)[k]? =some (atOf ns k):=by
 unfold bqz
 rw[List.getElem?_map,List.getElem?_range h]
 rfl
theorem goz (ns:List Int) (m:Nat) (hm:m=0∨∃x,ns[m-1]? =some x∧x≠0):∀k,m≤k→(∀j,m≤j→j<k→ns[j]? =some 0)→tl ns k=m
 |0,h,_=>by have:m=0:=by omega
            subst this;rfl
 |k+1,h,hz=>by
  by_cases hk:m=k+1
  · subst hk
    rw[tl,if_neg]
    rcases hm with h|⟨x,hx,hne⟩
    · omega
    · rw[show k=k+1-1 from rfl,hx];intro e;cases e;exact hne rfl
  · rw[tl,if_pos (hz k (by omega) (by omega))]
    exact goz ns m hm k (by omega) (λj h1 h2=>hz j h1 (by omega))
def app (o s:St):St:=match o with
 |some e=>s.map (· ++e)
 |none=>none
theorem g0z (ns:List Int):∀k,tl ns k=0∨ns[tl ns k-1]? ≠some 0
 |0=>.inl rfl
 |k+1=>by
  rw[tl]
  split
  ·exact g0z ns k
  ·right;assumption
theorem jFz (ns:List Int) (h:c5z ns=true):aMz ns=ns.take (tl ns ns.length):=by
 unfold c5z at h
 rw[Bool.and_eq_true,decide_eq_true_eq,List.all_eq_true]at h
 obtain⟨h1,h2⟩:=h
 have hle:=dYz ns ns.length
 obtain⟨k,hk⟩:∃k,tl ns ns.length=k:=⟨_,rfl⟩
 have hzero:=λj=>d5z ns ns.length j
 rw[hk]at h1 h2 hle hzero⊢
 have hA:∀j,j<k→(bqz ns 64)[j]? =ns[j]? :=λj hj=>by
  have hjl:j<ns.length:=by omega
  rw[e9z ns 64 j (by omega),List.getElem?_eq_getElem hjl,nwz ns j ns[j] (List.getElem?_eq_getElem hjl) (h2 _ (by
   rw[List.mem_iff_getElem?];exact⟨j,by rw[List.getElem?_take,if_pos hj,List.getElem?_eq_getElem hjl]⟩))]
 have hz:∀j,k≤j→j<64→(bqz ns 64)[j]? =some 0:=λj g1 g2=>by
  rw[e9z ns 64 j g2]
  unfold atOf
  by_cases hjl:j<ns.length
  ·rw[hzero j g1 hjl];rfl
  ·rw[List.getElem?_eq_none (by omega)]
 have hlast:k=0∨∃x,ns[k-1]? =some x∧x≠0:=by
  rcases Nat.eq_zero_or_pos k with h0|h0
  ·exact .inl h0
  ·right
   refine⟨ns[k-1],List.getElem?_eq_getElem (by omega),λe=> ?_⟩
   rcases g0z ns ns.length with h|h
   ·omega
   ·rw[hk,List.getElem?_eq_getElem (by omega),e]at h
    exact h rfl
 have ht:tl (bqz ns 64) 64=k:=goz _ _ (by
  rcases hlast with h0|⟨x,hx,hne⟩
  ·exact .inl h0
  ·by_cases h0:k=0
   ·exact .inl h0
   ·exact .inr ⟨x,by rw[hA _ (by omega)];exact hx,hne⟩) 64 h1 hz
 unfold aMz
 rw[ht]
 apply List.ext_getElem?
 intro j
 rw[List.getElem?_take,List.getElem?_take]
 split
 ·exact hA j (by assumption)
 ·rfl
end Go.Proofs.YthhakekbffembaaGreatDoor.Cd
