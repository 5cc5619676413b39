import Derived.Test.YthhakekbffembaaGreatDoorProg
import Derived.WalkKit
import Derived.WalkSpells
import Derived.WalkLawsBesides
import Derived.Laws.OwnMore
import Derived.Laws.StructEq
import Derived.Deep.AppendLies
import Derived.Deep.WholeRow
import Derived.Maps.AppendAt
import Derived.Deep.LoopGhost
import Derived.Deep.QuietTactic
import Derived.BigQuiet
import Derived.RegionTactic
set_option maxRecDepth 8000
set_option maxHeartbeats 400000

namespace Go.Proofs.YthhakekbffembaaGreatDoor.Vc
variable {k:Nat} {ys xs:List Int}
def okN (x:Int):Bool:=decide (0≤x)&&decide (x≤1152921504606846976)
def atOf (ns:List Int) (k:Nat):Int:=match ns[k]? with
 |some x=>if okN x then x else 0
 |none=>0
def atZ (ns:List Int) (z:Int):Int:=if 0≤z∧z<64 then atOf ns z.toNat else 0
theorem iYz (x:Int):okN x=true↔0≤x∧x≤1152921504606846976:=by simp[okN]
theorem faz (ns:List Int) (k:Nat):0≤atOf ns k∧atOf ns k≤1152921504606846976:=by
 unfold atOf
 split
 ·split
  ·exact(iYz _).1 ‹_›
  ·omega
 ·omega
def numsTo (f:Nat→Int) (n:Nat):List Int:=(List.range n).map f
def nums (f:Nat→Int):List Int:=numsTo f 64
theorem ftz (f:Nat→Int) (n:Nat):(numsTo f n).length=n:=by simp[numsTo]
theorem i5z (f:Nat→Int) {n:Nat} (h:k<n):(numsTo f n)[k]? =some (f k):=by
 simp[numsTo,List.getElem?_map,List.getElem?_range h]
theorem nums_length (f:Nat→Int):(nums f).length=64:=ftz f 64
theorem c6z (f:Nat→Int) (h:k<64):(nums f)[k]? =some (f k):=i5z f h
def tl (ns:List Int):Nat→Nat
 |0=>0
 |k+1=>if ns[k]? =some 0 then tl ns k else k+1
theorem dYz (ns:List Int):∀k,tl ns k≤k
 |0=>Nat.le_refl _
 |k+1=>by
  rw[tl];split
  ·exact Nat.le_succ_of_le (dYz ns k)
  ·exact Nat.le_refl _
theorem d5z (ns:List Int):∀n k,tl ns n≤k→k<n→ns[k]? =some 0
 |0,k,_,h=>absurd h (Nat.not_lt_zero k)
 |n+1,k,h1,h2=>by
  rw[tl]at h1
  split at h1
  ·by_cases e:k=n
   ·subst e;assumption
   ·exact d5z ns n k h1 (by omega)
  ·omega
def vec (f:Nat→Int):List Int:=(nums f).take (tl (nums f) 64)
theorem hTz (f:Nat→Int):(vec f).length=tl (nums f) 64:=by
 unfold vec
 rw[List.length_take,nums_length]
 exact Nat.min_eq_left (dYz _ _)
theorem vec_le (f:Nat→Int):(vec f).length≤64:=by rw[hTz];exact dYz _ _
theorem kXz {f:Nat→Int} (hk:k<64) (h0:0≤f k) (h1:f k≤1152921504606846976):atOf (vec f) k=f k:=by
 unfold atOf vec
 rw[List.getElem?_take]
 by_cases h:k<tl (nums f) 64
 ·rw[if_pos h,c6z f hk]
  have:okN (f k)=true:=(iYz _).2 ⟨h0,h1⟩
  simp[this]
 ·rw[if_neg h]
  have:=d5z (nums f) 64 k (by omega) hk
  rw[c6z f hk]at this
  exact(Option.some.inj this).symm
def mix (ys xs:List Int) (j:Nat):List Int:=ys.take j++xs.drop j
theorem hAz (ys xs:List Int):mix ys xs 0=xs:=by simp[mix]
theorem gKz (hy:ys.length=64) (hx:xs.length=64):mix ys xs 64=ys:=by
 simp[mix,List.take_of_length_le (Nat.le_of_eq hy),List.drop_of_length_le (Nat.le_of_eq hx)]
theorem j5z (hy:ys.length=64) {j:Nat} (hj:j≤64):(mix ys xs j)[j]? =xs[j]? :=by
 unfold mix
 rw[List.getElem?_append_right (by simp[hy];omega),List.length_take,hy,Nat.min_eq_left hj,Nat.sub_self,List.getElem?_drop,Nat.add_zero]
theorem mlz (hy:ys.length=64) (hx:xs.length=64) {j:Nat} (hj:j<64) {y:Int} (h:ys[j]? =some y):(mix ys xs j).set j y=mix ys xs (j+1):=by
 apply List.ext_getElem?
 intro i
 unfold mix
 rw[List.getElem?_set]
 by_cases hi:j=i
 ·subst hi
  rw[if_pos rfl,if_pos (by simp[hy,hx];omega),List.getElem?_append_left (by simp[hy];omega),List.getElem?_take,if_pos (by omega),h]
 ·rw[if_neg hi]
  by_cases hl:i<j
  ·rw[List.getElem?_append_left (by simp[hy];omega),List.getElem?_append_left (by simp[hy];omega),List.getElem?_take,List.getElem?_take,if_pos hl,if_pos (by omega)]
  ·rw[List.getElem?_append_right (by simp[hy];omega),List.getElem?_append_right (by simp[hy];omega),List.getElem?_drop,List.getElem?_drop,List.length_take,List.length_take,hy,Nat.min_eq_left (by omega),Nat.min_eq_left (by omega)]
   congr 1
   omega
def maxAt:List (List Int)→Nat→Int
 |vs,k=>vs.foldl (λm v=>max m (atOf v k)) 0
theorem maxAt_snoc (vs:List (List Int)) (v:List Int) (k:Nat):maxAt (vs++[v]) k=max (maxAt vs k) (atOf v k):=by simp[maxAt]
theorem eQz (k:Nat):∀(vs:List (List Int)) (m:Int),0≤m→m≤1152921504606846976→0≤vs.foldl (λm v=>max m (atOf v k)) m∧vs.foldl (λm v=>max m (atOf v k)) m≤1152921504606846976
 |[],_,h0,h1=>⟨h0,h1⟩
 |v::vs,m,h0,h1=>by
  have:=faz v k
  exact eQz k vs (max m (atOf v k)) (by omega) (by omega)
theorem eoz (vs:List (List Int)) (k:Nat):0≤maxAt vs k∧maxAt vs k≤1152921504606846976:=eQz k vs 0 (by omega) (by omega)
theorem maxAt_two (a b:List Int) (k:Nat):maxAt [a,b] k=max (atOf a k) (atOf b k):=by
 have:=faz a k
 show max (max 0 (atOf a k)) (atOf b k)=_
 omega
def enz (a b:List Int):Nat→Bool
 |0=>true
 |k+1=>enz a b k&&decide (atOf a k≤atOf b k)
def leqB (a b:List Int):Bool:=enz a b 64
theorem fZz (a b:List Int):∀n,enz a b n=true↔∀k,k<n→atOf a k≤atOf b k
 |0=>by simp[enz]
 |n+1=>by
  rw[enz,Bool.and_eq_true,fZz a b n,decide_eq_true_iff]
  constructor
  ·intro ⟨h1,h2⟩ k hk
   by_cases e:k=n
   ·subst e;exact h2
   ·exact h1 k (by omega)
  ·intro h
   exact⟨λk hk=>h k (by omega),h n (by omega)⟩
theorem leqB_iff (a b:List Int):leqB a b=true↔∀k,k<64→atOf a k≤atOf b k:=fZz a b 64
theorem icz {a b:List Int} (hk:k<64) (h:¬atOf a k≤atOf b k):leqB a b=false:=by
 cases e:leqB a b with
 |false=>rfl
 |true=>exact absurd ((leqB_iff a b).1 e k hk) h
theorem at_max {vs:List (List Int)} (hk:k<64):atOf (vec (maxAt vs)) k=maxAt vs k:=kXz hk (eoz vs k).1 (eoz vs k).2
end Go.Proofs.YthhakekbffembaaGreatDoor.Vc

namespace Go.Proofs.YthhakekbffembaaGreatDoor.Vc
open Go.RowKit
variable {w w':World} {b k n g:Nat} {v:Value} {p:Option Addr} {xs:List Value} {ns:List Int} {x:Int} {ops:Array Oper} {rest:List Oper} {o:Oper} {a:Act} {Q:Exit→Act→World→Prop}
theorem Tryz.info2:(Tryz.prog.info? 2).map (λi=>(i.zero,i.size,i.bytes))=some (some (.int .i64 0),1,8):=by kernel_rfl
theorem Tryz.size228:(Tryz.prog.info? 228).map (·.size)=some 64:=by kernel_rfl
theorem cellOf {cs:Array Value} {t:TypeId} {f:Nat×Nat} (h:w.heap[b]? =some (.cells cs t f)) (j:Nat):
  w.cell? ⟨b,j,none⟩=cs[j]? :=by
 simp[World.cell?,h]
theorem aez {cs:Array Value} {t:TypeId} (h:w.heap[b]? =some (.cells cs t (0,0))) (j:Nat):
  w.frozen? ⟨b,j,none⟩=false:=by
 simp[World.frozen?,h]
theorem a4z (h:w.cell? ⟨b,k,none⟩=some v):b<w.heap.size:=by
 by_cases hb:b<w.heap.size
 ·exact hb
 ·simp[World.cell?,Array.getElem?_eq_none (Nat.not_lt.1 hb)]at h
theorem block_lt {o:Obj} (h:w.heap[b]? =some o):b<w.heap.size:=(Array.getElem?_eq_some_iff.1 h).1
theorem adz {P:Program} {f:Nat} {args:Array Value} {v:Ending} {K:Ending→World→Prop}
  (h:Calls P f args w λe w'=>e=v∧w'=w) (hk:K v w):Calls P f args w K:=
 h.mono (by rintro e w' ⟨rfl,rfl⟩;exact hk)
abbrev iv (n:Int):Value:=.int .i64 n
theorem g7z (ns:List Int):∀v∈ns.map iv,v.oneCell'=true:=by
 intro v hv
 obtain⟨x,_,rfl⟩:=List.mem_map.1 hv
 rfl
def Lies (w:World) (p:Option Addr) (xs:List Value):Prop:=
 0<xs.length→∃b o,p=some ⟨b,o,none⟩∧∀j x,xs[j]? =some x→w.cell? ⟨b,o+j,none⟩=some x
theorem dPz (w:World) (p:Option Addr):Lies w p []:=λh=>absurd h (by simp)
theorem below_lies (h:Below w.heap.size w w') (hb:Lies w p xs):Lies w' p xs:=by
 intro hl
 obtain⟨b,o,rfl,hx⟩:=hb hl
 refine⟨b,o,rfl,λj x hj=> ?_⟩
 have hc:=hx j x hj
 exact(h.cell (p:=⟨b,o+j,none⟩) (a4z hc)).trans hc
theorem joz (h:Lies w p (ns.map iv)) (hx:ns[k]? =some x):∃b o,p=some ⟨b,o,none⟩∧w.cell? ⟨b,o+k,none⟩=some (.int .i64 x):=by
 obtain⟨b,o,rfl,hc⟩:=h (by have:=(List.getElem?_eq_some_iff.1 hx).1;simp;omega)
 exact⟨b,o,rfl,hc k (iv x) (by rw[List.getElem?_map,hx];rfl)⟩
theorem lies_take (h:Lies w p (ns.map iv)) (n:Nat):Lies w p ((ns.take n).map iv):=by
 intro hl
 obtain⟨b,o,rfl,hc⟩:=h (by simp at hl⊢;omega)
 refine⟨b,o,rfl,λj x hj=>hc j x ?_⟩
 rw[List.map_take,List.getElem?_take]at hj
 split at hj
 ·exact hj
 ·cases hj
theorem own_below {W W':World} {base e:Nat} (h:W.ownsRow base e 1 v n xs) (hb:Below W.heap.size W W'):W'.ownsRow base e 1 v n xs:=by
 refine⟨h.1, ?_⟩
 rcases h.2 with h0|⟨g,cap,cur,rfl,hg,hgg,r⟩
 ·exact .inl h0
 ·exact .inr ⟨g,cap,cur,rfl,hg,(hb.block g (block_lt hgg)).trans hgg,r⟩
theorem fRz {W:World} {base e:Nat} (h:W.ownsRow base e 1 v n xs):
  n=xs.length∧∃p cap,v=.slice p xs.length cap∧xs.length≤cap∧Lies W p xs:=by
 have hlen:=h.1
 rw[Nat.mul_one]at hlen
 subst hlen
 refine⟨rfl, ?_⟩
 rcases h.2 with⟨rfl,h0⟩|⟨g,cap,cur,rfl,hb',hgg,hc,r⟩
 ·exact⟨none,0,by rw[h0],by omega,λhl=>absurd hl (by omega)⟩
 ·refine⟨some ⟨g,0,none⟩,cap,rfl,hc,λ_=>⟨g,0,rfl,λj x hj=> ?_⟩⟩
  have hlt:=(List.getElem?_eq_some_iff.1 hj).1
  rw[Nat.zero_add,h.cellAt j (by omega),hj]
def Ans (w:World) (ns:List Int) (e:Ending) (w':World):Prop:=∃p c,e=.returned (.slice p ns.length c)∧Lies w' p (ns.map iv)∧Below w.heap.size w w'
theorem Ans.mk {c:Nat} {e:Ending} (he:e=.returned (.slice p n c)) (hn:n=ns.length) (hl:Lies w' p (ns.map iv)) (hb:Below w.heap.size w w'):Ans w ns e w':=by
 subst hn
 exact⟨p,c,he,hl,hb⟩
def row (ns:List Int):Array Value:=(ns.map iv).toArray
def zeros:List Int:=nums (λ_=>0)
theorem cYz (ns:List Int):(row ns).size=ns.length:=by simp[row]
theorem jfz (ns:List Int) (k:Nat):(row ns)[k]? =ns[k]?.map iv:=by simp[row]
theorem row_one (ns:List Int):(row ns).all (·.oneCell')=true:=by simp[row,Value.oneCell']
theorem msz (ns:List Int) (k:Nat) (x:Int):(row ns).setIfInBounds k (.int .i64 x)=row (ns.set k x):=by
 simp[row,List.map_set]
theorem zeros_length:zeros.length=64:=nums_length _
def Blk (w:World) (g:Nat) (ns:List Int):Prop:=w.heap[g]? =some (.cells (row ns) 228 (0,0))
theorem Blk.lt (h:Blk w g ns):g<w.heap.size:=block_lt h
theorem Blk.cell (h:Blk w g ns) (hx:ns[k]? =some x):w.cell? ⟨g,k,none⟩=some (.int .i64 x):=by
 rw[cellOf h k,jfz,hx];rfl
theorem Blk.frozen (h:Blk w g ns) (k:Nat):w.frozen? ⟨g,k,none⟩=false:=aez h k
theorem Blk.below (h:Blk w g ns) (hb:Below w.heap.size w w'):Blk w' g ns:=(hb.block g h.lt).trans h
theorem Blk.set (h:Blk w g ns) (k:Nat) (x:Int):Blk (w.setCell ⟨g,k,none⟩ (.int .i64 x)) g (ns.set k x):=by
 show _=_
 rw[heap_setCell_same w g k (row ns) 228 (.int .i64 x) h,msz]
theorem Blk.set_other (h:Blk w g ns) (k:Nat) (v:Value) (hne:g≠b):Blk (w.setCell ⟨b,k,none⟩ v) g ns:=
 (heap_setCell_other w ⟨b,k,none⟩ g v hne).trans h
theorem Blk.row {xs:List Int} (h:Blk w g xs) (ys:List Int):Blk (w.setRow g (row ys)) g ys:=setRow_heap w g _ _ 228 _ h
theorem Blk.alloc {xs:List Int} (h:Blk w g xs) (o:Obj):Blk (w.alloc o) g xs:=(Below.heap_alloc _ _ _ h.lt).trans h
theorem Blk.made (w:World) (xs:List Int):Blk (w.alloc (.cells (Vc.row xs) 228)) w.heap.size xs:=heap_alloc_new w _
theorem Blk.lies (h:Blk w g ns):Lies w (some ⟨g,0,none⟩) (ns.map iv):=by
 refine λ_=>⟨g,0,rfl,λj x hj=> ?_⟩
 rw[List.getElem?_map]at hj
 obtain⟨y,hy,rfl⟩:=Option.map_eq_some_iff.1 hj
 rw[Nat.zero_add]
 exact h.cell hy
theorem Below.row {B:Nat} (h:Below B w w') (hg:B≤g) (c:Array Value):Below B w (w'.setRow g c):=
 ⟨h.os,h.tape,h.output,by simpa using h.size,λk hk=>(setRow_other w' g k c (by omega)).trans (h.block k hk)⟩
theorem o2z (w:World):(zeroValue 228).run Tryz.prog w=.ok (.agg (row zeros)) w:=by
 rw[Tryz.zeroValue228 w]
 rfl
theorem cRz (hgd:o.guard=none) (ho:o.op=.alloc 228) (h:wpList Tryz.prog ops Q rest (a.put o.dst (.pointer (some ⟨w.heap.size,0,none⟩))) (w.alloc (.cells (row zeros) 228))):wpList Tryz.prog ops Q (o::rest) a w:=by
 refine wpList_plain hgd λK hK=> ?_
 unfold Oper.wp execOp
 simp only[ho,Sem.run_bind,Instr.alloc,newVar,newRow,o2z,run_newObj_alloc,Sem.run_pure,Result.andThen_ok,Value.cells]
 exact hK _ _ h
theorem dez (hgd:o.guard=none) (x:Operand) (ho:o.op=.load 228 x)
  (g:Nat) (hx:a.eval x=.pointer (some ⟨g,0,none⟩)) (ns:List Int) (hb:Hid (Blk w g ns)) (hl:Hid (ns.length=64)) (h:wpList Tryz.prog ops Q rest (a.put o.dst (.agg (row ns))) w):wpList Tryz.prog ops Q (o::rest) a w:=
 wpList_load_row hgd 228 x ho g hx 228 (row ns) (0,0) _ hb.out Tryz.underlying228 rfl (by rw[cYz,hl.out];exact Tryz.size228) h
theorem f8z (hgd:o.guard=none) (x y:Operand) (ho:o.op=.store 228 x y)
  (g:Nat) (hx:a.eval x=.pointer (some ⟨g,0,none⟩)) (ns ms:List Int) (hy:a.eval y=.agg (row ms)) (hb:Hid (Blk w g ns)) (hl:Hid (ns.length=64)) (hm:Hid (ms.length=64)) (h:Hid (Blk (w.setRow g (row ms)) g ms)→wpList Tryz.prog ops Q rest (a.put o.dst undef) (w.setRow g (row ms))):wpList Tryz.prog ops Q (o::rest) a w:=by
 refine wpList_plain hgd λK hK=> ?_
 unfold Oper.wp execOp
 simp only[ho,hx,hy,Instr.storeAt,Instr.sureAddr,Sem.run_bind,Sem.run_pure,Result.andThen_ok,run_storeVar_row w g 228 228 (row ns) (row ms) hb.out (by rw[cYz,hm.out];exact Tryz.size228) (by rw[cYz,cYz,hl.out,hm.out]) (row_one ms)]
 exact hK _ _ (h (Blk.row hb.out ms))
theorem dwz (hgd:o.guard=none) (x:Operand) (ho:o.op=.box 228 x) (ns:List Int) (hx:a.eval x=.agg (row ns)) (h:wpList Tryz.prog ops Q rest (a.put o.dst (.pointer (some ⟨w.heap.size,0,none⟩))) (w.alloc (.cells (row ns) 228))):wpList Tryz.prog ops Q (o::rest) a w:=by
 refine wpList_plain hgd λK hK=> ?_
 unfold Oper.wp execOp
 simp only[ho,hx,Sem.run_bind,Instr.box,newVar,newRow,run_newObj_alloc,Sem.run_pure,Result.andThen_ok,Value.cells]
 exact hK _ _ h
theorem nez (hl:ns.length=64) (hx:ns[k]? =some x) (w:World):(Instr.index 228 (.agg (row ns)) (.int .i64 k)).run Tryz.prog w=.ok (.int .i64 x) w:=by
 have hk:k<64:=by have:=(List.getElem?_eq_some_iff.1 hx).1;omega
 have h2:(row ns)[k]? =some (.int .i64 x):=by rw[jfz,hx];rfl
 unfold Instr.index
 simp[asIntOf,run_underlying Tryz.underlying228,Tryz.sizeOf2,part,Tryz.isAgg2,h2]
 omega
end Go.Proofs.YthhakekbffembaaGreatDoor.Vc

namespace Go.Proofs.YthhakekbffembaaGreatDoor.Vc
open Go.RowKit
def bRz (z:Int):Bool:=decide (0≤z)&&decide (z<64)
theorem jzz {k:Nat} (h:k<64):bRz k=true:=by simp[bRz];omega
theorem kDz {z:Int} (h:¬(0≤z∧z<64)):bRz z=false:=by simp[bRz];omega
theorem cxz (z:Int) (w:World):Calls Tryz.prog 178 #[.int .i64 z] w λe w'=>e=.returned (.bool (bRz z))∧w'=w:=by
 by_cases h0:0≤z
 ·have HE:Hid (bRz z=decide (z<64)):=by show _=_;simp[bRz,h0]
  go_enter Tryz.func178,Tryz.ntmps178
  go_wp2
  go_ret
  rw[HE.out]
  exact⟨rfl,rfl⟩
 ·have HE:Hid (bRz z=false):=by show _=_;simp[bRz];omega
  go_enter Tryz.func178,Tryz.ntmps178
  go_wp2
  go_ret
  rw[HE.out]
  exact⟨rfl,rfl⟩
theorem hpz (x:Int) (w:World):Calls Tryz.prog 179 #[.int .i64 x] w λe w'=>e=.returned (.bool (okN x))∧w'=w:=by
 by_cases h0:0≤x
 ·have HE:Hid (okN x=decide (x≤1152921504606846976)):=by show _=_;simp[okN,h0]
  go_enter Tryz.func179,Tryz.ntmps179
  go_wp2
  go_ret
  rw[HE.out]
  exact⟨rfl,rfl⟩
 ·have HE:Hid (okN x=false):=by show _=_;simp[okN];omega
  go_enter Tryz.func179,Tryz.ntmps179
  go_wp2
  go_ret
  rw[HE.out]
  exact⟨rfl,rfl⟩
theorem gbz (p:Option Addr) (ns:List Int) (cp k:Nat) (w:World) (hp:Lies w p (ns.map iv)) (hk:k<64):
  Calls Tryz.prog 140 #[.slice p ns.length cp,.int .i64 k] w λe w'=>e=.returned (.int .i64 (atOf ns k))∧w'=w:=by
 have c29:=cxz k w
 rw[jzz hk]at c29
 by_cases hl:k<ns.length
 ·obtain⟨x,hxx⟩:∃x,ns[k]? =some x:=⟨_,List.getElem?_eq_getElem hl⟩
  obtain⟨b,o,rfl,c1⟩:=joz hp hxx
  have HE:Hid (atOf ns k=if okN x then x else 0):=by show atOf ns k=_;unfold atOf;rw[hxx]
  have hl':¬(ns.length:Int)≤k:=by omega
  have c30:=hpz x w
  clear hxx hp
  cases hn:okN x with
  |true=>
   rw[hn]at c30
   have HO:Hid (okN x=true):=hn
   clear hn
   go_enter Tryz.func140,Tryz.ntmps140
   go_wp2_with (first|(go_at_call 178;refine adz c29 ?_)|(go_at_call 179;refine adz c30 ?_))
   go_ret
   rw[HE.out,HO.out]
   exact⟨rfl,rfl⟩
  |false=>
   rw[hn]at c30
   have HO:Hid (okN x=false):=hn
   clear hn
   go_enter Tryz.func140,Tryz.ntmps140
   go_wp2_with (first|(go_at_call 178;refine adz c29 ?_)|(go_at_call 179;refine adz c30 ?_))
   go_ret
   rw[HE.out,HO.out]
   exact⟨rfl,rfl⟩
 ·have HE:Hid (atOf ns k=0):=by show atOf ns k=_;unfold atOf;rw[List.getElem?_eq_none (by omega)]
  have hl':(ns.length:Int)≤k:=by omega
  clear hp
  go_enter Tryz.func140,Tryz.ntmps140
  go_wp2_with (go_at_call 178;refine adz c29 ?_)
  go_ret
  rw[HE.out]
  exact⟨rfl,rfl⟩
theorem j3z (ns:List Int) {k:Nat} (hk:k<64):atZ ns k=atOf ns k:=by
 unfold atZ
 rw[if_pos (by omega)]
 rfl
theorem iRz (ns:List Int) {z:Int} (h:¬(0≤z∧z<64)):atZ ns z=0:=by unfold atZ;rw[if_neg h]
theorem at_any (p:Option Addr) (ns:List Int) (cp:Nat) (z:Int) (w:World) (hp:Lies w p (ns.map iv)):
  Calls Tryz.prog 140 #[.slice p ns.length cp,.int .i64 z] w λe w'=>e=.returned (.int .i64 (atZ ns z))∧w'=w:=by
 by_cases hz:0≤z∧z<64
 ·obtain⟨k,rfl⟩:=Int.eq_ofNat_of_zero_le hz.1
  have hk:k<64:=by omega
  rw[j3z ns hk]
  exact gbz p ns cp k w hp hk
 ·have c29:=cxz z w
  rw[kDz hz]at c29
  rw[iRz ns hz]
  clear hp hz
  go_enter Tryz.func140,Tryz.ntmps140
  go_wp2_with (go_at_call 178;refine adz c29 ?_)
  go_ret
  exact⟨rfl,rfl⟩
theorem mPz (p:Option Addr) (ns:List Int) (cp k:Nat) (w:World) (hp:Lies w p (ns.map iv)) (hk:k<64):
  Calls Tryz.prog 62 #[.slice p ns.length cp,.int .i64 k] w λe w'=>e=.returned (.int .i64 (atOf ns k))∧w'=w:=by
 have h0:¬(k:Int)<0:=by omega
 have h1:¬(64:Int)≤k:=by omega
 by_cases hl:k<ns.length
 ·obtain⟨x,hxx⟩:∃x,ns[k]? =some x:=⟨_,List.getElem?_eq_getElem hl⟩
  obtain⟨b,o,rfl,c1⟩:=joz hp hxx
  have HE:Hid (atOf ns k=if okN x then x else 0):=by show atOf ns k=_;unfold atOf;rw[hxx]
  have hl':¬(ns.length:Int)≤k:=by omega
  clear hxx hp
  by_cases hn:x<0
  ·have HO:Hid (okN x=false):=by simp[Hid,okN];omega
   go_enter Tryz.func62,Tryz.ntmps62
   go_wp2
   go_ret
   rw[HE.out,HO.out]
   exact⟨rfl,rfl⟩
  ·by_cases hm:(1152921504606846976:Int)<x
   ·have HO:Hid (okN x=false):=by simp[Hid,okN];omega
    go_enter Tryz.func62,Tryz.ntmps62
    go_wp2
    go_ret
    rw[HE.out,HO.out]
    exact⟨rfl,rfl⟩
   ·have HO:Hid (okN x=true):=by simp[Hid,okN];omega
    go_enter Tryz.func62,Tryz.ntmps62
    go_wp2
    go_ret
    rw[HE.out,HO.out]
    exact⟨rfl,rfl⟩
 ·have HE:Hid (atOf ns k=0):=by show atOf ns k=_;unfold atOf;rw[List.getElem?_eq_none (by omega)]
  have hl':(ns.length:Int)≤k:=by omega
  clear hp
  go_enter Tryz.func62,Tryz.ntmps62
  go_wp2
  go_ret
  rw[HE.out]
  exact⟨rfl,rfl⟩
theorem rat_any (p:Option Addr) (ns:List Int) (cp:Nat) (z:Int) (w:World) (hp:Lies w p (ns.map iv)):
  Calls Tryz.prog 62 #[.slice p ns.length cp,.int .i64 z] w λe w'=>e=.returned (.int .i64 (atZ ns z))∧w'=w:=by
 by_cases hz:0≤z∧z<64
 ·obtain⟨k,rfl⟩:=Int.eq_ofNat_of_zero_le hz.1
  have hk:k<64:=by omega
  rw[j3z ns hk]
  exact mPz p ns cp k w hp hk
 ·rw[iRz ns hz]
  clear hp
  by_cases h0:z<0
  ·clear hz
   go_enter Tryz.func62,Tryz.ntmps62
   go_wp2
   go_ret
   exact⟨rfl,rfl⟩
  ·have h1:(64:Int)≤z:=by omega
   clear hz
   go_enter Tryz.func62,Tryz.ntmps62
   go_wp2
   go_ret
   exact⟨rfl,rfl⟩
theorem gEz (p q:Option Addr) (a b:List Int) (cp cq k:Nat) (w:World) (hp:Lies w p (a.map iv)) (hq:Lies w q (b.map iv)) (hk:k<64):
  Calls Tryz.prog 186 #[.slice p a.length cp,.slice q b.length cq,.int .i64 k] w λe w'=>e=.returned (.bool (decide (atOf b k<atOf a k)))∧w'=w:=by
 have ca:=gbz p a cp k w hp hk
 have cb:=gbz q b cq k w hq hk
 generalize atOf a k=x at ca
 generalize atOf b k=y at cb
 generalize a.length=la at ca
 generalize b.length=lb at cb
 clear hp hq hk
 go_enter Tryz.func186,Tryz.ntmps186
 go_wp2_with (first|(go_at_call 140;refine adz ca ?_;clear ca)|(go_at_call 140;refine adz cb ?_))
 go_ret
 exact⟨rfl,rfl⟩
end Go.Proofs.YthhakekbffembaaGreatDoor.Vc

namespace Go.Proofs.YthhakekbffembaaGreatDoor.Vc
open Go.RowKit
theorem Blk.made_next (w:World) (o:Obj) (xs:List Int):Blk ((w.alloc o).alloc (.cells (Vc.row xs) 228)) (w.heap.size+1) xs:=by
 have:=Blk.made (w.alloc o) xs
 simpa using this
theorem Blk.step {w:World} {g j:Nat} {ys xs:List Int} (h:Blk w g (mix ys xs j)) (hy:ys.length=64) (hx:xs.length=64) (hj:j<64) {y:Int} (e:ys[j]? =some y):Blk (w.setCell ⟨g,j,none⟩ (.int .i64 y)) g (mix ys xs (j+1)):=by
 have:=h.set j y
 rw[mlz hy hx hj e]at this
 exact this
theorem dOz (p:Option Addr) (ns:List Int) (cp:Nat) (w:World) (hp:Lies w p (ns.map iv)):
  Calls Tryz.prog 187 #[.slice p ns.length cp] w λe w'=>e=.returned (.agg (row (nums (atOf ns))))∧Below w.heap.size w w':=by
 have HP:Hid (Lies w p (ns.map iv)):=hp
 clear hp
 obtain⟨ys,hys⟩:∃ys,ys=nums (atOf ns):=⟨_,rfl⟩
 have hyl:ys.length=64:=by rw[hys];exact nums_length _
 have HY:Hid (ys=nums (atOf ns)):=hys
 have HYL:Hid (ys.length=64):=hyl
 rw[← hys]
 clear hys hyl
 go_enter Tryz.func187,Tryz.ntmps187
 go_wp2_with (refine cRz rfl rfl ?_)
 go_loopw [5] (λii wr=>∃i:Nat,ii=.int .i64 i∧i≤64∧Hid (Blk wr w.heap.size zeros)∧Hid (Blk wr (w.heap.size+1) (mix ys zeros i))∧Hid (Below w.heap.size w wr)) (λii _=>64-(intOf ii).toNat)
 case atStart=>
  refine⟨0,rfl,by omega,(Blk.made w zeros).alloc _, ?_,((Below.refl _ _).alloc (Nat.le_refl _) _).alloc (by simp) _⟩
  rw[hAz]
  exact Blk.made_next w _ zeros
 case round=>
  obtain⟨i,rfl,hi,HZ,HM,HB⟩:=hrel
  by_cases hlt:i<64
  ·have hltI:(i:Int)<64:=by omega
   have c12:=gbz p ns cp i wr (below_lies HB.out HP.out) hlt
   have hy:ys[i]? =some (atOf ns i):=by rw[HY.out];exact c6z _ hlt
   obtain⟨z,hz⟩:∃z,(mix ys zeros i)[i]? =some z:=⟨0,by rw[j5z HYL.out hi];exact c6z _ hlt⟩
   have cz:=HM.out.cell hz
   have fz:=HM.out.frozen i
   generalize atOf ns i=y at c12 hy
   have HE:Hid (ys[i]? =some y):=hy
   clear hy hz
   go_wp2_with (go_at_call 140;refine adz c12 ?_)
   go_roundw
   case rel=>
    refine⟨i+1,by go_num,by omega,HZ.out.set_other _ _ (by omega),HM.out.step HYL.out zeros_length hlt HE.out,HB.out.setCell (by simp) _⟩
   case measure=>simp[intOf];omega
  ·obtain rfl:i=64:=by omega
   have HM':Hid (Blk wr (w.heap.size+1) ys):=by have:=HM.out;rw[gKz HYL.out zeros_length]at this;exact this
   have HZL:Hid (zeros.length=64):=zeros_length
   clear hlt HM
   go_wp2_with (first|(refine dez rfl _ rfl _ rfl ys HM' HYL ?_)|(refine f8z rfl _ _ rfl _ rfl zeros ys rfl HZ HZL HYL ?_;intro HS))
   refine bodyPost_ret (v:=.agg (row ys)) ?_ rfl ⟨rfl,Below.row HB.out (Nat.le_refl _) _⟩
   exact results_cell_row rfl _ _ w.heap.size 228 (row ys) (0,0) _ rfl HS.out Tryz.underlying228 rfl (by rw[cYz,HYL.out];exact Tryz.size228)
end Go.Proofs.YthhakekbffembaaGreatDoor.Vc

namespace Go.Proofs.YthhakekbffembaaGreatDoor.Vc
open Go.RowKit
theorem dFz (ty:TypeId) (p:Option Addr) (n c:Nat) (x:Value) (w:World):(Builtin.append_ #[31,30] ty #[.slice p n c,x]).run Tryz.prog w=(Builtin.append_ #[31,31] ty #[.slice p n c,x]).run Tryz.prog w:=by
 simp[Builtin.append_,run_underlying Tryz.underlying31,run_underlying Tryz.underlying30,Tryz.sizeOf2]
theorem jqz (g:Nat) {z:Int} {n:Nat} (hz:z=n) (hn:n≤64) (w:World):(Instr.sliceAt 228 (.pointer (some ⟨g,0,none⟩)) none (some (.int .i64 z)) none).run Tryz.prog w=.ok (.slice (some ⟨g,0,none⟩) n 64) w:=by
 subst hz
 simp[Instr.sliceAt,run_underlying Tryz.underlying228,Instr.sureAddr,Instr.sliceBounds,Instr.sliceBound,Tryz.sizeOf2,asIntOf,Addr.add_lit]
 omega
theorem bXz {w:World} {ops:Array Oper} {rest:List Oper} {o:Oper} {a:Act} {Q:Exit→Act→World→Prop} (hgd:o.guard=none) (s x:Operand) (ho:o.op=.call {callee:=.builtin .append,args:= #[s,x],argTypes:= #[31,30]}) (base:Nat) (hs:a.eval s=.slice none 0 0) (g n c:Nat) (ns:List Int) (hx:a.eval x=.slice (some ⟨g,0,none⟩) n c) (hb:Hid (Blk w g ns)) (hl:Hid (ns.length=64)) (hn:Hid (n≤64)) (hbase:Hid (base≤w.heap.size)) (h:∀p c' w',Hid (Lies w' p ((ns.take n).map iv))→Hid (Below base w w')→wpList Tryz.prog ops Q rest (a.put o.dst (.slice p (ns.take n).length c')) w'):
  wpList Tryz.prog ops Q (o::rest) a w:=by
 refine wpList_plain hgd λK hK=> ?_
 obtain⟨i0,hi0,hz0,hz1,hz2⟩:=info_parts Tryz.info2
 have hlen:((ns.take n).map iv).length=n:=by have:=hl.out;have:=hn.out;simp;omega
 obtain⟨v',w',hr,h2,h3,_,h5⟩:=run_append_own_at (P:=Tryz.prog) w base 31 o.type 2 i0 (.int .i64 0) 1 8 Tryz.underlying31 hi0 hz0 hz1 hz2 rfl (by decide) (.slice none 0 0) 0 [] (World.ownsRow_nil _ _ _ _) ⟨g,0,none⟩ n c ((ns.take n).map iv) (by omega)
  (λj u hj=>by
   rw[Addr.add_lit]
   obtain⟨b,o',e,hc⟩:=lies_take hb.out.lies n (Nat.lt_of_le_of_lt (Nat.zero_le _) (List.getElem?_eq_some_iff.1 hj).1)
   cases e
   exact hc j u hj) (g7z _) (by have:=hn.out;unfold maxLen;omega) (by have:=hn.out;omega) hbase.out
 obtain⟨_,p',c',rfl,_,hlies⟩:=fRz h2
 unfold Oper.wp execOp
 simp only[ho,resolve,invoke,builtin,Sem.run_bind,Sem.run_pure,Result.andThen_ok,List.map_toArray,List.map_cons,List.map_nil,hs,hx,dFz,hr]
 refine hK _ _ ?_
 rw[List.nil_append]at hlies⊢
 rw[List.length_map]
 exact h p' c' w' hlies ⟨h3.os,h3.tape,h3.output,h3.size,λk hk=>h3.block k (Nat.lt_of_lt_of_le hk hbase.out) (λe=>by cases e)⟩
theorem iaz (f:Nat→Int) (w:World):
  Calls Tryz.prog 188 #[.agg (row (nums f))] w (Ans w (vec f)):=by
 obtain⟨xs,hxs⟩:∃xs,xs=nums f:=⟨_,rfl⟩
 have HXL:Hid (xs.length=64):=by show _=_;rw[hxs];exact nums_length _
 obtain⟨ys,hys⟩:∃ys,ys=vec f:=⟨_,rfl⟩
 rw[← hys,← hxs]
 have HV:Hid (ys=xs.take (tl xs 64)):=by show _=_;rw[hys,hxs];rfl
 clear hys hxs
 have HM:Hid (Blk (w.alloc (.cells (row xs) 228)) w.heap.size xs):=Blk.made w xs
 go_enter Tryz.func188,Tryz.ntmps188
 go_wp2_with (refine dwz rfl _ rfl xs rfl ?_)
 go_loop [3] (λvv=>∃k:Nat,vv=.int .i64 k∧k≤64∧Hid (tl xs k=tl xs 64)) (λvv=>(intOf vv).toNat)
 case atStart=>exact⟨64,rfl,Nat.le_refl _,rfl⟩
 case round=>
  obtain⟨k,rfl,hk,HE⟩:=hrel
  by_cases hend:k=0∨∃j x,k=j+1∧xs[j]? =some x∧x≠0
  ·have HT:Hid (tl xs 64=k):=by
    show _=_
    rw[← HE.out]
    rcases hend with rfl|⟨j,x,rfl,hx,hz⟩
    ·rfl
    ·rw[tl,if_neg (by rw[hx];intro e;cases e;exact hz rfl)]
   have HK:Hid (k≤64):=hk
   have HBS:Hid (w.heap.size≤(w.alloc (.cells (row xs) 228)).heap.size):=by show _≤_;simp
   have HV':Hid (xs.take k=ys):=by show _=_;rw[HV.out,HT.out]
   clear HE HT
   rcases hend with rfl|⟨j,x,rfl,hx,hz⟩
   ·go_wp2_with (refine bXz rfl _ _ rfl w.heap.size rfl w.heap.size _ _ xs rfl HM HXL HK HBS ?_;intro p c w1 HL HB)
    have HL':=HL.out
    rw[HV'.out]at HL'
    go_ret
    exact Ans.mk rfl (by rw[← HV'.out];simp) HL' (((Below.refl _ _).alloc (Nat.le_refl _) _).trans HB.out)
   ·have cx:=HM.out.cell hx
    have hz':(x==0)=false:=by simpa using hz
    have hs:=λw'=>jqz w.heap.size (z:=(j:Int)+1) (n:=j+1) (by omega) hk w'
    clear hx hz
    go_wp2_with (refine bXz rfl _ _ rfl w.heap.size rfl w.heap.size _ _ xs rfl HM HXL HK HBS ?_;intro p c w1 HL HB)
    have HL':=HL.out
    rw[HV'.out]at HL'
    go_ret
    exact Ans.mk rfl (by rw[← HV'.out];simp) HL' (((Below.refl _ _).alloc (Nat.le_refl _) _).trans HB.out)
  ·obtain⟨j,rfl⟩:∃j,k=j+1:=⟨k-1,by rcases Nat.eq_zero_or_pos k with h|h;exact absurd (.inl h) hend;omega⟩
   obtain⟨x,hx⟩:∃x,xs[j]? =some x:=⟨_,List.getElem?_eq_getElem (by rw[HXL.out];omega)⟩
   have hz:x=0:=Decidable.byContradiction λh=>hend (.inr ⟨j,x,rfl,hx,h⟩)
   subst hz
   have cx:=HM.out.cell hx
   have HX:Hid (xs[j]? =some 0):=hx
   clear hx hend
   go_wp2
   go_round
   case rel=>
    refine⟨j,by go_num,by omega, ?_⟩
    have:=HE.out
    rw[tl,if_pos HX.out]at this
    exact this
   case measure=>simp[intOf]
theorem Below.then {B:Nat} {u v w:World} (h:Below B u v) (k:Below v.heap.size v w) (hB:B≤u.heap.size):Below B u w:=h.trans (k.mono (Nat.le_trans hB h.size))
theorem Ans.after {u v w:World} {ns:List Int} {e:Ending} (h:Below u.heap.size u v) (k:Ans v ns e w):Ans u ns e w:=by
 obtain⟨p,c,he,hl,hb⟩:=k
 exact⟨p,c,he,hl,Below.then h hb (Nat.le_refl _)⟩
theorem norm_any (p:Option Addr) (ns:List Int) (cp:Nat) (w:World) (hp:Lies w p (ns.map iv)):
  Calls Tryz.prog 174 #[.slice p ns.length cp] w (Ans w (vec (atOf ns))):=by
 have c27:=dOz p ns cp w hp
 obtain⟨f,hf⟩:∃f,atOf ns=f:=⟨_,rfl⟩
 rw[hf]at c27⊢
 clear hp hf
 go_enter Tryz.func174,Tryz.ntmps174
 go_wp2_with (first
  |(go_at_call 187;refine c27.mono ?_;rintro e w1 ⟨rfl,hB⟩;have HB:Hid (Below w.heap.size w w1):=hB;clear hB c27)
  |(go_at_call 188;refine(iaz f w1).mono ?_;rintro e w2 ⟨p',c',rfl,hl,hb⟩;have HA:Hid (Ans w1 (vec f) (.returned (.slice p' (vec f).length c')) w2):=⟨p',c',rfl,hl,hb⟩;clear hl hb))
 go_ret
 exact HA.out.after HB.out
end Go.Proofs.YthhakekbffembaaGreatDoor.Vc

namespace Go.Proofs.YthhakekbffembaaGreatDoor.Vc
open Go.RowKit
theorem acz {f:Nat} {args:Array Value} {w:World} {v:Ending} {K:Ending→World→Prop} (h:Calls Tryz.prog f args w λe w'=>e=v∧Below w.heap.size w w') (hk:∀w',Hid (Below w.heap.size w w')→K v w'):Calls Tryz.prog f args w K:=
 h.mono (by rintro e w' ⟨rfl,hb⟩;exact hk w' hb)
theorem ggz {w:World} {ops:Array Oper} {rest:List Oper} {o:Oper} {a:Act} {Q:Exit→Act→World→Prop} (hgd:o.guard=none) (ho:o.op=.alloc 228) (h:∀w',Hid (Blk w' w.heap.size zeros)→Hid (Below w.heap.size w w')→wpList Tryz.prog ops Q rest (a.put o.dst (.pointer (some ⟨w.heap.size,0,none⟩))) w'):wpList Tryz.prog ops Q (o::rest) a w:=
 cRz hgd ho (h _ (Blk.made w zeros) ((Below.refl _ _).alloc (Nat.le_refl _) _))
end Go.Proofs.YthhakekbffembaaGreatDoor.Vc

namespace Go.Proofs.YthhakekbffembaaGreatDoor.Vc
open Go.RowKit
theorem leq_any (p q:Option Addr) (a b:List Int) (cp cq:Nat) (w:World) (hp:Lies w p (a.map iv)) (hq:Lies w q (b.map iv)):
  Calls Tryz.prog 151 #[.slice p a.length cp,.slice q b.length cq] w λe w'=>e=.returned (.bool (leqB a b))∧w'=w:=by
 have C:Hid (∀k:Nat,k<64→Calls Tryz.prog 186 #[.slice p a.length cp,.slice q b.length cq,.int .i64 k] w λe w'=>e=.returned (.bool (decide (atOf b k<atOf a k)))∧w'=w):=
  λk hk=>gEz p q a b cp cq k w hp hq hk
 clear hp hq
 go_enter Tryz.func151,Tryz.ntmps151
 go_wp2
 go_loop [6] (λii=>∃i:Nat,ii=.int .i64 i∧i≤64∧Hid (enz a b i=true)) (λii=>64-(intOf ii).toNat)
 case atStart=>exact⟨0,rfl,by omega,rfl⟩
 case round=>
  obtain⟨i,rfl,hi,HA⟩:=hrel
  by_cases hlt:i<64
  ·have hltI:(i:Int)<64:=by omega
   have c25:=C.out i hlt
   by_cases hn:atOf b i<atOf a i
   ·rw[decide_eq_true hn]at c25
    have HF:Hid (leqB a b=false):=icz hlt (by omega)
    clear hn
    go_wp2_with (go_at_call 186;refine adz c25 ?_)
    go_ret
    rw[HF.out]
    exact⟨rfl,rfl⟩
   ·rw[decide_eq_false hn]at c25
    have HN:Hid (enz a b (i+1)=true):=by show _=_;rw[enz,HA.out,decide_eq_true (by omega)];rfl
    clear hn
    go_wp2_with (go_at_call 186;refine adz c25 ?_)
    go_round
    case rel=>exact⟨i+1,by go_num,by omega,HN⟩
    case measure=>simp[intOf];omega
  ·obtain rfl:i=64:=by omega
   have HT:Hid (leqB a b=true):=HA
   clear hlt
   go_wp2
   go_ret
   rw[HT.out]
   exact⟨rfl,rfl⟩
end Go.Proofs.YthhakekbffembaaGreatDoor.Vc

namespace Go.Proofs.YthhakekbffembaaGreatDoor.Vc
open Go.RowKit
def cut (ns:List Int):List Int:=ns.take 80
theorem cut_le (ns:List Int):(cut ns).length≤80:=by unfold cut;rw[List.length_take];omega
theorem cut_any (p:Option Addr) (ns:List Int) (cp:Nat) (w:World) (hl:ns.length≤cp) (hm:ns.length≤maxLen):
  Calls Tryz.prog 59 #[.slice p ns.length cp] w λe w'=>e=.returned (.slice p (cut ns).length cp)∧w'=w:=by
 unfold maxLen at hm
 by_cases h:80<ns.length
 ·have hI:(80:Int)<ns.length:=by omega
  have HC:Hid ((cut ns).length=80):=by show _=_;unfold cut;rw[List.length_take];omega
  generalize ns.length=n at*
  go_enter Tryz.func59,Tryz.ntmps59
  go_wp2
  go_ret
  rw[HC.out]
  exact⟨rfl,rfl⟩
 ·have hI:¬(80:Int)<ns.length:=by omega
  have HC:Hid ((cut ns).length=ns.length):=by show _=_;unfold cut;rw[List.length_take];omega
  go_enter Tryz.func59,Tryz.ntmps59
  go_wp2
  go_ret
  rw[HC.out]
  exact⟨rfl,rfl⟩
end Go.Proofs.YthhakekbffembaaGreatDoor.Vc
