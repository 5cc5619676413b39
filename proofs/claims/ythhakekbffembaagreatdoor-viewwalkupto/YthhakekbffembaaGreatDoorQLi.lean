import Derived.Test.YthhakekbffembaaGreatDoorQLa
import Derived.MapKept
set_option maxRecDepth 8000
set_option maxHeartbeats 1000000

namespace Go.Proofs.YthhakekbffembaaGreatDoor.Ck.Y.L
open Go.RowKit Go.Maps Go.Lib
variable {w:World} {mb:Nat} {t n:Int}
abbrev KP:=Int×Int
variable {E:List KP}
abbrev uv:Value:=.agg #[]
theorem hXz (d:Nat) (a b:Int) (w:World):(Op.equalIn (d+1) 2 (.int .i64 a) (.int .i64 b)).run Tryz.prog w=.ok (a==b) w:=by simp[Op.equalIn,go_sem]
theorem hMz (d:Nat) (a b:Int) (w:World):(Op.equalIn (d+1) 3 (.int .i64 a) (.int .i64 b)).run Tryz.prog w=.ok (a==b) w:=by simp[Op.equalIn,go_sem]
theorem g9z (d:Nat) (a1 a2 b1 b2:Int) (w:World):(Op.equalIn (d+2) 28 (idv a1 a2) (idv b1 b2)).run Tryz.prog w=.ok (decide (a1=b1)&&decide (a2=b2)) w:=by
 have h1:Tryz.prog.stoodInHeld 28=false:=by kernel_rfl
 unfold Op.equalIn
 simp only[Sem.run_bind,run_underlying Tryz.underlying28,Result.andThen_ok]
 by_cases e1:a1=b1<;>by_cases e2:a2=b2<;>simp[go_sem,h1,e1,e2,hXz,hMz]
theorem cOz (a b:KP) (w:World):(Op.equal 28 (idv a.1 a.2) (idv b.1 b.2)).run Tryz.prog w=.ok (decide (a.1=b.1)&&decide (a.2=b.2)) w:=g9z 9998 a.1 a.2 b.1 b.2 w
theorem m4z (d:Nat) (e:Bool) (a:Int) (w:World):(Instr.checkKey e (d+1) 2 (.int .i64 a)).run Tryz.prog w=.ok () w:=by simp[Instr.checkKey,go_sem]
theorem ljz (d:Nat) (e:Bool) (a:Int) (w:World):(Instr.checkKey e (d+1) 3 (.int .i64 a)).run Tryz.prog w=.ok () w:=by simp[Instr.checkKey,go_sem]
theorem lpz (d:Nat) (e:Bool) (a b:Int) (w:World):(Instr.checkKey e (d+2) 28 (idv a b)).run Tryz.prog w=.ok () w:=by
 unfold Instr.checkKey
 simp only[Sem.run_bind,run_underlying Tryz.underlying28,Result.andThen_ok]
 simp[go_sem,m4z,ljz]
theorem bgz (e:Bool) (a:KP) (w:World):(Instr.checkKey e 10000 28 (idv a.1 a.2)).run Tryz.prog w=.ok () w:=lpz 9998 e a.1 a.2 w
def enS (x:KP):Value×Value:=(idv x.1 x.2,uv)
def MapS (w:World) (mb:Nat) (E:List KP):Prop:=∃es clock,w.heap[mb]? =some (.map es clock)∧es.toList.map (λe=>(e.key,e.val))=E.map enS
theorem cXz (q:KP) (w:World):∀(l:List MapEntry) (E:List KP) (i:Nat),l.map (λe=>(e.key,e.val))=E.map enS→(Instr.findAsking 28 (idv q.1 q.2) l i).run Tryz.prog w=.ok ((E.findIdx? λx=>decide (x=q)).map λk=>(i+k,uv)) w
 |[],[],i,_=>by simp[Instr.findAsking]
 |[],_::_,i,h=>by simp at h
 |_::_,[],i,h=>by simp at h
 |e::l,x::E,i,h=>by
  simp only[List.map_cons,List.cons.injEq]at h
  obtain⟨h1,h2⟩:=h
  obtain⟨hk,hv⟩:=Prod.mk.inj h1
  unfold Instr.findAsking
  rw[hk]
  simp only[Sem.run_bind,cOz,Result.andThen_ok]
  have ih:=cXz q w l E (i+1) h2
  by_cases e1:x=q
  ·have e2:(decide (q.1=x.1)&&decide (q.2=x.2))=true:=by rw[e1];simp
   rw[e2]
   simp[List.findIdx?_cons,e1,hv]
  ·have e2:(decide (q.1=x.1)&&decide (q.2=x.2))=false:=by
    by_cases f1:q.1=x.1
    ·have f2:¬q.2=x.2:=λf2=>e1 (Prod.ext f1.symm f2.symm)
     simp[f2]
    ·simp[f1]
   rw[e2]
   simp only[Bool.false_eq_true,if_false,ih,List.findIdx?_cons,e1,decide_false]
   cases E.findIdx? λx=>decide (x=q)with
   |none=>simp
   |some k=>simp only[Option.map_some,show i+1+k=i+(k+1) by omega]
theorem bkz (q:KP) (w:World) (l:List MapEntry) (E:List KP) (h:l.map (λe=>(e.key,e.val))=E.map enS):(Instr.findKey 28 (idv q.1 q.2) l).run Tryz.prog w=.ok ((E.findIdx? λx=>decide (x=q)).map λk=>(k,uv)) w:=by
 have hA:=cXz q w l E 0 h
 simp only[Nat.zero_add]at hA
 unfold Instr.findKey
 simp only[Sem.run_bind,run_underlying Tryz.underlying28,Result.andThen_ok]
 cases l with
 |nil=>
  have:E=[]:=by cases E with|nil=>rfl|cons x E=>simp at h
  subst this
  simp[Instr.findNow]
 |cons e l=>
  simp only[Instr.findNow,Instr.sameNow]
  exact hA
theorem e1z {q:KP} (h:q∉E):(E.findIdx? λx=>decide (x=q))=none:=
 List.findIdx?_eq_none_iff.2 λx hx=>by simp;rintro rfl;exact h hx
theorem jPz {q:KP} (h:q∈E):∃k,(E.findIdx? λx=>decide (x=q))=some k:=by
 cases hf:E.findIdx? λx=>decide (x=q)with
 |some k=>exact⟨k,rfl⟩
 |none=>exact absurd (List.findIdx?_eq_none_iff.1 hf q h) (by simp)
theorem g5z (h:MapS w mb E) (hq:(t,n)∉E):(Instr.lookup 146 (.map (some mb)) (idv t n) true).run Tryz.prog w=.ok (.tuple #[uv,.bool false]) w:=by
 obtain⟨es,clock,hb,he⟩:=h
 have hk:=bkz (t,n) w es.toList E he
 have hc:=λe=>bgz e (t,n) w
 rw[e1z hq]at hk
 simp[Instr.lookup,run_underlying Tryz.underlying146,MapKept.run_getObj_map hb,hc,hk,Tryz.zeroValue162]
theorem eWz (h:MapS w mb E) (hq:(t,n)∈E):(Instr.lookup 146 (.map (some mb)) (idv t n) true).run Tryz.prog w=.ok (.tuple #[uv,.bool true]) w:=by
 obtain⟨es,clock,hb,he⟩:=h
 have hk:=bkz (t,n) w es.toList E he
 have hc:=λe=>bgz e (t,n) w
 obtain⟨k,e⟩:=jPz hq
 rw[e]at hk
 simp[Instr.lookup,run_underlying Tryz.underlying146,MapKept.run_getObj_map hb,hc,hk]
theorem look_nil (t n:Int) (w:World):(Instr.lookup 146 (.map none) (idv t n) true).run Tryz.prog w=.ok (.tuple #[uv,.bool false]) w:=by
 have hc:=λe=>bgz e (t,n) w
 have hk:=bkz (t,n) w [] [] rfl
 rw[e1z (by simp)]at hk
 simp[Instr.lookup,run_underlying Tryz.underlying146,hc,hk,Tryz.zeroValue162]
theorem e5z (w:World) (b k:Nat) (o:Obj) (h:k≠b):(Go.ChangeMaps.setBlock w b o).heap[k]? =w.heap[k]? :=by
 unfold Go.ChangeMaps.setBlock
 simp[Array.getElem?_setIfInBounds_ne (Ne.symm h)]
theorem biz (w:World) (b:Nat) (o:Obj):Only (· =b) w (Go.ChangeMaps.setBlock w b o):=⟨rfl,rfl,rfl,by simp[Go.ChangeMaps.setBlock],λi _ hn=>e5z w b i o hn⟩
theorem bUz {b:Nat} (o:Obj) (h:b<w.heap.size):(Go.ChangeMaps.setBlock w b o).heap[b]? =some o:=by
 unfold Go.ChangeMaps.setBlock
 simp[h]
theorem d6z (h:MapS w mb E) (hq:(t,n)∉E):
  ∃W,(Instr.mapUpdate 146 (.map (some mb)) (idv t n) uv).run Tryz.prog w=.ok () W∧MapS W mb (E++[(t,n)])∧Only (· =mb) w W∧W.heap.size=w.heap.size:=by
 obtain⟨es,clock,hb,he⟩:=h
 have hk:=bkz (t,n) w es.toList E he
 have hc:=λe=>bgz e (t,n) w
 rw[e1z hq]at hk
 refine⟨Go.ChangeMaps.setBlock w mb (.map (es.push ⟨idv t n,uv,clock⟩) (clock+1)), ?_,⟨_,_,bUz _ (block_lt hb), ?_⟩,biz _ _ _,by simp[Go.ChangeMaps.setBlock]⟩
 ·simp[Instr.mapUpdate,run_underlying Tryz.underlying146,MapKept.run_getObj_map hb,hc,hk,MapKept.run_setObj_map _ hb,Result.andThen,Go.ChangeMaps.setBlock]
 ·rw[Array.toList_push,List.map_append,List.map_append,he]
  rfl
theorem MapS.lt (h:MapS w mb E):mb<w.heap.size:=by
 obtain⟨es,clock,hb,he⟩:=h
 exact block_lt hb
theorem MapS.kept {w':World} {S:Nat→Prop} (h:MapS w mb E) (ho:Only S w w') (hn:¬S mb):MapS w' mb E:=by
 obtain⟨es,clock,hb,he⟩:=h
 exact⟨es,clock,(ho.block mb (block_lt hb) hn).trans hb,he⟩
end Go.Proofs.YthhakekbffembaaGreatDoor.Ck.Y.L

namespace Go.Proofs.YthhakekbffembaaGreatDoor.Vc
open Go.RowKit
def Vecs (w:World) (q:Option Addr) (vss:List (List Int)):Prop:=
 ∀j v,vss[j]? =some v→∃b o p c,q=some ⟨b,o,none⟩∧w.cell? ⟨b,o+j,none⟩=some (.slice p v.length c)∧Lies w p (v.map iv)
theorem Vecs.below {w w':World} {q:Option Addr} {vss:List (List Int)} (h:Vecs w q vss) (hb:Below w.heap.size w w'):Vecs w' q vss:=by
 intro j v hv
 obtain⟨b,o,p,c,rfl,hc,hl⟩:=h j v hv
 exact⟨b,o,p,c,rfl,(hb.cell (p:=⟨b,o+j,none⟩) (a4z hc)).trans hc,below_lies hb hl⟩
theorem k9z:zeros=nums (maxAt []):=rfl
end Go.Proofs.YthhakekbffembaaGreatDoor.Vc

namespace Go.Proofs.YthhakekbffembaaGreatDoor.Vc
open Go.RowKit
def AnsO (w:World) (ns:List Int) (e:Ending) (w':World):Prop:=∃p c,e=.returned (.slice p ns.length c)∧w'.ownsRow w.heap.size 2 1 (.slice p ns.length c) ns.length (ns.map iv)∧Below w.heap.size w w'
theorem AnsO.mk {w w':World} {ns ms:List Int} {p:Option Addr} {n c:Nat} {e:Ending} (he:e=.returned (.slice p n c)) (hm:n=ms.length) (hn:ms=ns) (hl:w'.ownsRow w.heap.size 2 1 (.slice p ms.length c) ms.length (ms.map iv)) (hb:Below w.heap.size w w'):AnsO w ns e w':=by
 subst hn;subst hm
 exact⟨p,c,he,hl,hb⟩
theorem own_base {w:World} {b b':Nat} {e:TypeId} {v:Value} {n:Nat} {xs:List Value} (h:w.ownsRow b e 1 v n xs) (hb:b'≤b):w.ownsRow b' e 1 v n xs:=by
 refine⟨h.1, ?_⟩
 rcases h.2 with h0|⟨g,cap,cur,hv,hb2,r⟩
 ·exact .inl h0
 ·exact .inr ⟨g,cap,cur,hv,by omega,r⟩
theorem c7z {w:World} {ops:Array Oper} {rest:List Oper} {o:Oper} {a:Act} {Q:Exit→Act→World→Prop} (hgd:o.guard=none) (s x:Operand) (ho:o.op=.call {callee:=.builtin .append,args:= #[s,x],argTypes:= #[31,30]}) (base:Nat) (hs:a.eval s=.slice none 0 0) (g n c:Nat) (ns:List Int) (hx:a.eval x=.slice (some ⟨g,0,none⟩) n c) (hb:Hid (Blk w g ns)) (hl:Hid (ns.length=64)) (hn:Hid (n≤64)) (hbase:Hid (base≤w.heap.size)) (h:∀p c' w',Hid (w'.ownsRow base 2 1 (.slice p (ns.take n).length c') (ns.take n).length ((ns.take n).map iv))→Hid (Below base w w')→wpList Tryz.prog ops Q rest (a.put o.dst (.slice p (ns.take n).length c')) w'):
  wpList Tryz.prog ops Q (o::rest) a w:=by
 refine wpList_plain hgd λK hK=> ?_
 obtain⟨i0,hi0,hz0,hz1,hz2⟩:=info_parts Tryz.info2
 have hlen:((ns.take n).map iv).length=n:=by have:=hl.out;have:=hn.out;simp;omega
 obtain⟨v',w',hr,h2,h3,_,h5⟩:=run_append_own_at (P:=Tryz.prog) w base 31 o.type 2 i0 (.int .i64 0) 1 8 Tryz.underlying31 hi0 hz0 hz1 hz2 rfl (by decide) (.slice none 0 0) 0 [] (World.ownsRow_nil _ _ _ _) ⟨g,0,none⟩ n c ((ns.take n).map iv) (by omega)
  (λj u hj=>by
   rw[Addr.add_lit]
   obtain⟨b,o',e,hc⟩:=lies_take hb.out.lies n (Nat.lt_of_le_of_lt (Nat.zero_le _) (List.getElem?_eq_some_iff.1 hj).1)
   cases e
   exact hc j u hj) (g7z _) (by have:=hn.out;unfold maxLen;omega) (by have:=hn.out;omega) hbase.out
 have hlen2:(ns.take n).length=n:=by simpa using hlen
 rw[List.nil_append,Nat.zero_add]at h2
 obtain⟨p',c',rfl⟩:∃p' c',v'=.slice p' n c':=by
  rcases h2.2 with⟨e,h0⟩|⟨g',cap,cur,e,_⟩
  ·exact⟨none,0,by rw[e,h0]⟩
  ·exact⟨_,cap,e⟩
 unfold Oper.wp execOp
 simp only[ho,resolve,invoke,builtin,Sem.run_bind,Sem.run_pure,Result.andThen_ok,List.map_toArray,List.map_cons,List.map_nil,hs,hx,dFz,hr]
 refine hK _ _ ?_
 have:=h p' c' w'
 rw[hlen2]at this
 exact this h2 ⟨h3.os,h3.tape,h3.output,h3.size,λk hk=>h3.block k (Nat.lt_of_lt_of_le hk hbase.out) (λe=>by cases e)⟩
theorem iiz (f:Nat→Int) (w:World):
  Calls Tryz.prog 188 #[.agg (row (nums f))] w (AnsO w (vec f)):=by
 obtain⟨xs,hxs⟩:∃xs,xs=nums f:=⟨_,rfl⟩
 have HXL:Hid (xs.length=64):=by show _=_;rw[hxs];exact nums_length _
 obtain⟨ys,hys⟩:∃ys,ys=vec f:=⟨_,rfl⟩
 rw[← hys,← hxs]
 have HV:Hid (ys=xs.take (tl xs 64)):=by show _=_;rw[hys,hxs];rfl
 clear hys hxs
 have HM:Hid (Blk (w.alloc (.cells (row xs) 228)) w.heap.size xs):=Blk.made w xs
 go_enter Tryz.func188,Tryz.ntmps188
 go_wp2_with (refine dwz rfl _ rfl xs rfl ?_)
 go_loop [3] (λvv=>∃k:Nat,vv=.int .i64 k∧k≤64∧Hid (tl xs k=tl xs 64)) (λvv=>(intOf vv).toNat)
 case atStart=>exact⟨64,rfl,Nat.le_refl _,rfl⟩
 case round=>
  obtain⟨k,rfl,hk,HE⟩:=hrel
  by_cases hend:k=0∨∃j x,k=j+1∧xs[j]? =some x∧x≠0
  ·have HT:Hid (tl xs 64=k):=by
    show _=_
    rw[← HE.out]
    rcases hend with rfl|⟨j,x,rfl,hx,hz⟩
    ·rfl
    ·rw[tl,if_neg (by rw[hx];intro e;cases e;exact hz rfl)]
   have HK:=a0z hk
   have HBS:Hid (w.heap.size≤(w.alloc (.cells (row xs) 228)).heap.size):=by show _≤_;simp
   have HV':Hid (xs.take k=ys):=by show _=_;rw[HV.out,HT.out]
   clear HE HT
   rcases hend with rfl|⟨j,x,rfl,hx,hz⟩
   ·go_wp2_with (refine c7z rfl _ _ rfl w.heap.size rfl w.heap.size _ _ xs rfl HM HXL HK HBS ?_;intro p c w1 HL HB)
    go_ret
    exact AnsO.mk rfl (by simp) HV'.out HL.out (((Below.refl _ _).alloc (Nat.le_refl _) _).trans HB.out)
   ·have cx:=HM.out.cell hx
    have hz':(x==0)=false:=by simpa using hz
    have hs:=λw'=>jqz w.heap.size (z:=(j:Int)+1) (n:=j+1) (by omega) hk w'
    clear hx hz
    go_wp2_with (refine c7z rfl _ _ rfl w.heap.size rfl w.heap.size _ _ xs rfl HM HXL HK HBS ?_;intro p c w1 HL HB)
    go_ret
    exact AnsO.mk rfl (by simp) HV'.out HL.out (((Below.refl _ _).alloc (Nat.le_refl _) _).trans HB.out)
  ·obtain⟨j,rfl⟩:∃j,k=j+1:=⟨k-1,by rcases Nat.eq_zero_or_pos k with h|h;exact absurd (.inl h) hend;omega⟩
   obtain⟨x,hx⟩:∃x,xs[j]? =some x:=⟨_,List.getElem?_eq_getElem (by rw[HXL.out];omega)⟩
   have hz:x=0:=Decidable.byContradiction λh=>hend (.inr ⟨j,x,rfl,hx,h⟩)
   subst hz
   have cx:=HM.out.cell hx
   have HX:=a0z hx
   clear hx hend
   go_wp2
   go_round
   case rel=>
    refine⟨j,by go_num,by omega, ?_⟩
    have:=HE.out
    rw[tl,if_pos HX.out]at this
    exact this
   case measure=>simp[intOf]
theorem max_own (q:Option Addr) (vss:List (List Int)) (cq:Nat) (w:World) (hl:vss.length≤1000) (hq:Vecs w q vss):
  Calls Tryz.prog 152 #[.slice q vss.length cq] w (AnsO w (vec (maxAt vss))):=by
 have HQ:=a0z hq
 clear hq
 obtain⟨g,hg⟩:∃g,w.heap.size=g:=⟨_,rfl⟩
 have HG:=a0z hg
 clear hg
 go_enter Tryz.func152,Tryz.ntmps152
 go_wp2_with (refine ggz rfl rfl ?_;intro w1 HM HB1)
 rw[HG.out]
 have HM1:Hid (Blk w1 g (nums (maxAt []))):=by rw[← HG.out,← k9z];exact HM
 clear HM
 go_loopw [10] (λii wr=>∃i:Nat,ii=.int .i64 i∧i≤vss.length∧Hid (Blk wr g (nums (maxAt (vss.take i))))∧Hid (Below w.heap.size w wr)) (λii _=>vss.length-(intOf ii).toNat)
 case atStart=>exact⟨0,rfl,by omega,HM1,HB1⟩
 case round=>
  obtain⟨i,rfl,hi,HM,HB⟩:=hrel
  by_cases hlt:i<vss.length
  ·have hltI:(i:Int)<vss.length:=by omega
   obtain⟨v,hv⟩:∃v,vss[i]? =some v:=⟨_,List.getElem?_eq_getElem hlt⟩
   obtain⟨b,o,p,c,rfl,hc,hlies⟩:=(HQ.out.below HB.out) i v hv
   have HT:Hid (vss.take (i+1)=vss.take i++[v]):=by show _=_;rw[List.take_add_one,hv];rfl
   have cv:=dOz p v c wr hlies
   obtain⟨xs,hxs⟩:∃xs,nums (maxAt (vss.take i))=xs:=⟨_,rfl⟩
   obtain⟨ys,hys⟩:∃ys,nums (maxAt (vss.take (i+1)))=ys:=⟨_,rfl⟩
   obtain⟨zs,hzs⟩:∃zs,nums (atOf v)=zs:=⟨_,rfl⟩
   have HXL:Hid (xs.length=64):=by show _=_;rw[← hxs];exact nums_length _
   have HYL:Hid (ys.length=64):=by show _=_;rw[← hys];exact nums_length _
   have HZL:Hid (zs.length=64):=by show _=_;rw[← hzs];exact nums_length _
   have HX:=a0z hxs
   have HY:=a0z hys
   have HZ:=a0z hzs
   rw[hxs]at HM
   rw[hzs]at cv
   clear hv hlies hxs hys hzs
   go_wp2_with (go_at_call 187;refine acz cv ?_;intro w2 HB2;clear cv)
   have H2:Hid (Below w.heap.size w w2):=Below.then HB.out HB2.out (Nat.le_refl _)
   have HM2:Hid (Blk w2 g xs):=HM.out.below HB2.out
   clear HB2 HM hc
   go_loopw [16] (λjj wx=>∃j:Nat,jj=.int .i64 j∧j≤64∧Hid (Blk wx g (mix ys xs j))∧Hid (Below w.heap.size w wx)) (λjj _=>64-(intOf jj).toNat)
   case atStart=>exact⟨0,rfl,by omega,by rw[hAz];exact HM2,H2⟩
   case round=>
    obtain⟨j,rfl,hj,HMj,HBj⟩:=hrel
    by_cases hlj:j<64
    ·have hljI:(j:Int)<64:=by omega
     have hx:xs[j]? =some (maxAt (vss.take i) j):=by rw[← HX.out];exact c6z _ hlj
     have hz:zs[j]? =some (atOf v j):=by rw[← HZ.out];exact c6z _ hlj
     have hy:ys[j]? =some (if maxAt (vss.take i) j<atOf v j then atOf v j else maxAt (vss.take i) j):=by
      rw[← HY.out,c6z _ hlj,HT.out,maxAt_snoc];congr 1;split<;>omega
     generalize maxAt (vss.take i) j=x at hx hy
     generalize atOf v j=z at hz hy
     have hix:=nez HZL.out hz
     have cx:=HMj.out.cell (k:=j) (x:=x) (by rw[j5z HYL.out hj];exact hx)
     have fx:=HMj.out.frozen j
     have HE:=a0z hy
     clear hx hz hy
     go_wp2
     go_roundw
     case rel=>exact⟨j+1,by go_num,by omega,HMj.out.step HYL.out HXL.out hlj HE.out,HBj.out.setCell (Nat.le_of_eq HG.out) _⟩
     case measure=>simp[intOf];omega
    ·obtain rfl:j=64:=by omega
     have HM':Hid (Blk wr g (nums (maxAt (vss.take (i+1))))):=by have:=HMj.out;rw[gKz HYL.out HXL.out,← HY.out]at this;exact this
     clear hlj HMj
     go_wp2
     go_roundw
     case rel=>exact⟨i+1,by go_num,by omega,HM',HBj⟩
     case measure=>simp[intOf];omega
  ·obtain rfl:i=vss.length:=by omega
   rw[List.take_length]at HM
   have HNL:Hid ((nums (maxAt vss)).length=64):=nums_length _
   clear hlt
   go_wp2_with (first
    |(refine dez rfl _ rfl g rfl (nums (maxAt vss)) HM HNL ?_)
    |(go_at_call 188;refine(iiz (maxAt vss) _).mono ?_;rintro e w5 ⟨p',c',rfl,hl5,hb5⟩;have HL:=a0z hl5;have HB5:=a0z hb5;clear hl5 hb5))
   go_ret
   exact⟨p',c',rfl,own_base HL.out HB.out.size,Below.then HB.out HB5.out (Nat.le_refl _)⟩
end Go.Proofs.YthhakekbffembaaGreatDoor.Vc

namespace Go.Proofs.YthhakekbffembaaGreatDoor.Ck.Y.L
open Go.RowKit Go.Maps Go.Lib
theorem eYz (mb:Nat) (w:World):(binOp .eql 146 (.map (some mb)) (.map none)).run Tryz.prog w=.ok (.bool false) w:=by kernel_rfl
theorem fpz (w:World):(binOp .eql 146 (.map none) (.map none)).run Tryz.prog w=.ok (.bool true) w:=by kernel_rfl
theorem MapS.below {w w':World} {mb:Nat} {E:List KP} (h:MapS w mb E) (hb:Below w.heap.size w w'):MapS w' mb E:=h.kept (Below.only hb (λ_=>False)) (λf=>f)
theorem jJz (fb mb:Nat) (t n:Int) (E:List KP) (w:World) (hf:w.cell? ⟨fb,0,none⟩=some (.map (some mb))) (hm:MapS w mb E) (hq:(t,n)∉E):
  Calls Tryz.prog 113 #[.pointer (some ⟨fb,0,none⟩),idv t n] w λe w'=>e=.returned (.tuple #[])∧MapS w' mb (E++[(t,n)])∧Only (· =mb) w w':=by
 obtain⟨w2,hw2⟩:∃w2,w2=w.alloc (.cells #[.int .i64 t,.int .i64 n] 28):=⟨_,rfl⟩
 have hk:w2.heap[w.heap.size]? =some (.cells #[.int .i64 t,.int .i64 n] 28 (0,0)):=by rw[hw2];exact heap_alloc_new w _
 have hB:Below w.heap.size w w2:=by rw[hw2];exact a3z w _
 have f0:w2.cell? ⟨fb,0,none⟩=some (.map (some mb)):=a5z hf hB
 have t0:w2.cell? ⟨w.heap.size,0,none⟩=some (.int .i64 t):=cellOf hk 0
 have t1:w2.cell? ⟨w.heap.size,1,none⟩=some (.int .i64 n):=cellOf hk 1
 have hm1:MapS w2 mb E:=hm.below hB
 have hm2:MapS w2.drew mb E:=hm1
 obtain⟨W,hput,hW1,hW2,_⟩:=d6z hm2 hq
 have H:Hid (MapS W mb (E++[(t,n)])∧Only (· =mb) w W):=⟨hW1,(Below.only hB _).next (Only.next (a:=w2) (b:=w2.drew) ⟨rfl,rfl,rfl,Nat.le_refl _,λ_ _ _=>rfl⟩ hW2)⟩
 have g0:(w.alloc (.cells #[.int .i64 t,.int .i64 n] 28)).cell? ⟨fb,0,none⟩=some (.map (some mb)):=by rw[← hw2];exact f0
 have q1:=eYz mb
 rw[hw2]at hput
 clear hf hm hq hk hB hm1 hm2 hW1 hW2 hw2 f0 t0 t1
 go_enter Tryz.func113,Tryz.ntmps113
 go_wp2_with fail
 go_region
 go_wp2
 go_end0
 exact⟨rfl,H.out⟩
theorem lLz (fb:Nat) (t n:Int) (x1 x2:Value) (w:World) (hf:w.heap[fb]? =some (.cells #[.map none,x1,x2] 148 (0,0))):
  Calls Tryz.prog 113 #[.pointer (some ⟨fb,0,none⟩),idv t n] w λe w'=>e=.returned (.tuple #[])∧∃mb,w'.heap[fb]? =some (.cells #[.map (some mb),x1,x2] 148 (0,0))∧MapS w' mb [(t,n)]∧Only (· =fb) w w'∧w.heap.size≤mb:=by
 obtain⟨A,hA⟩:∃A,A=(w.alloc (.cells #[.int .i64 t,.int .i64 n] 28)).alloc (.map #[] 0):=⟨_,rfl⟩
 have bA:Below w.heap.size w A:=by rw[hA];exact(b0z w _ _).out
 have kf:A.heap[fb]? =some (.cells #[.map none,x1,x2] 148 (0,0)):=(bA.block fb (block_lt hf)).trans hf
 have kk:A.heap[w.heap.size]? =some (.cells #[.int .i64 t,.int .i64 n] 28 (0,0)):=by rw[hA,Below.heap_alloc _ _ _ (by simp)];exact heap_alloc_new w _
 have km:A.heap[w.heap.size+1]? =some (.map #[] 0):=by
  have:=heap_alloc_new (w.alloc (.cells #[.int .i64 t,.int .i64 n] 28)) (.map #[] 0)
  rw[← hA]at this
  rwa [show(w.alloc (.cells #[.int .i64 t,.int .i64 n] 28)).heap.size=w.heap.size+1 by simp]at this
 have hfl:=block_lt hf
 obtain⟨B,hB⟩:∃B,B=A.setCell ⟨fb,0,none⟩ (.map (some (w.heap.size+1))):=⟨_,rfl⟩
 have bf:B.heap[fb]? =some (.cells #[.map (some (w.heap.size+1)),x1,x2] 148 (0,0)):=by rw[hB];exact a7z kf _
 have bk:B.heap[w.heap.size]? =some (.cells #[.int .i64 t,.int .i64 n] 28 (0,0)):=by rw[hB,Below.heap_setCell _ _ _ _ (by simp;omega)];exact kk
 have bm:B.heap[w.heap.size+1]? =some (.map #[] 0):=by rw[hB,Below.heap_setCell _ _ _ _ (by simp;omega)];exact km
 have hm2:MapS B.drew (w.heap.size+1) []:=⟨#[],0,bm,rfl⟩
 obtain⟨W,hput,hW1,hW2,_⟩:=d6z hm2 (t:=t) (n:=n) (by simp)
 have oB:Only (· =fb) w B:=(Below.only bA _).next (by rw[hB];exact Only.setCell (S:=(· =fb)) _ _ _ rfl)
 have H:Hid (∃mb,W.heap[fb]? =some (.cells #[.map (some mb),x1,x2] 148 (0,0))∧MapS W mb [(t,n)]∧Only (· =fb) w W∧w.heap.size≤mb):=by
  refine⟨w.heap.size+1,(hW2.block fb (block_lt bf) (by show ¬fb=_;omega)).trans bf,hW1, ?_,by omega⟩
  exact oB.trans (Only.trans (a:=B) (b:=B.drew) (S:=(· =w.heap.size+1)) ⟨rfl,rfl,rfl,Nat.le_refl _,λ_ _ _=>rfl⟩ hW2 (λi hi=>.inl hi)) (λi hi=>.inr (by show w.heap.size≤i;have:i=w.heap.size+1:=hi;omega))
 have g0:A.cell? ⟨fb,0,none⟩=some (.map none):=cellOf kf 0
 have g1:A.frozen? ⟨fb,0,none⟩=false:=aez kf 0
 have g2:B.cell? ⟨w.heap.size,0,none⟩=some (.int .i64 t):=cellOf bk 0
 have g3:B.cell? ⟨w.heap.size,1,none⟩=some (.int .i64 n):=cellOf bk 1
 have e0:(w.alloc (.cells #[.int .i64 t,.int .i64 n] 28)).cell? ⟨fb,0,none⟩=some (.map none):=a5z (cellOf hf 0) (a3z w _).out
 have q1:=fpz
 have hmm:= @run_makeMap Tryz.prog
 rw[hB]at g2 g3 hput
 rw[hA]at g0 g1 g2 g3 hput
 clear hf bA kf kk km hfl hB bf bk bm hm2 hW1 hW2 oB hA
 go_enter Tryz.func113,Tryz.ntmps113
 go_wp2_with fail
 go_region
 go_wp2
 go_end0
 exact⟨rfl,H.out⟩
end Go.Proofs.YthhakekbffembaaGreatDoor.Ck.Y.L
